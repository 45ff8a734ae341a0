/-
  The model's reader of a formula. (Printed by wip/tools/gen_spec_all.py.)
-/
import Derived.Test.YtplchhahjmoodaaGreatDoorZ44
namespace Go.Proofs.YtplchhahjmoodaaGreatDoor
open Go Go.RowKit Go.ChangeAt Go.ChangeShapes Go.WideShapes

def stepP (ss : List ByteArray) (F : RdS → Fm × RdS) (r : RdS) : Fm × RdS :=
    if r.2 = true then (zeroF, r)
    else if (takeP [116, 114, 117, 101] r).1 = true then (.mk 1 0 0 0 [], (takeP [116, 114, 117, 101] r).2)
    else if (takeP [111, 110, 32] r).1 = true then namedP ss 2 (takeP [111, 110, 32] r).2
    else if (takeP [102, 114, 111, 109, 32] r).1 = true then namedP ss 3 (takeP [102, 114, 111, 109, 32] r).2
    else if (takeP [115, 104, 97, 114, 101, 100, 58] r).1 = true then (.mk 4 0 (varP (takeP [115, 104, 97, 114, 101, 100, 58] r).2).1 0 [], (varP (takeP [115, 104, 97, 114, 101, 100, 58] r).2).2)
    else if (takeP [110, 101, 120, 116, 58] r).1 = true then pairP 5 (takeP [110, 101, 120, 116, 58] r).2
    else if (takeP [115, 97, 109, 101, 58] r).1 = true then pairP 6 (takeP [115, 97, 109, 101, 58] r).2
    else if (takeP [112, 97, 116, 104, 58] r).1 = true then pairP 7 (takeP [112, 97, 116, 104, 58] r).2
    else if (takeP [33] r).1 = true then (.mk 8 0 0 0 [(F (takeP [33] r).2).1], (F (takeP [33] r).2).2)
    else if (takeP [115, 111, 109, 101, 32] r).1 = true then bindP 11 F (takeP [115, 111, 109, 101, 32] r).2
    else if (takeP [97, 108, 108, 32] r).1 = true then bindP 12 F (takeP [97, 108, 108, 32] r).2
    else if (mustP [40] r).2 = true then (zeroF, mustP [40] r)
    else twoP F (mustP [40] r)
theorem allP_succ (ss : List ByteArray) (n : Nat) (r : RdS) : allP ss (n + 1) r = stepP ss (allP ss n) r := rfl
theorem step_0 {ss : List ByteArray} {F : RdS → Fm × RdS} {r q : RdS} (h : r.2 = false)  (y : takeP [116, 114, 117, 101] r = (true, q)) : stepP ss F r = (.mk 1 0 0 0 [], q) := by
  unfold stepP
  rw [if_neg (by rw [h]; simp), if_pos (by rw [y]), y]
theorem step_1 {ss : List ByteArray} {F : RdS → Fm × RdS} {r q : RdS} (h : r.2 = false) (n0 : (takeP [116, 114, 117, 101] r).1 = false) (y : takeP [111, 110, 32] r = (true, q)) : stepP ss F r = namedP ss 2 q := by
  unfold stepP
  rw [if_neg (by rw [h]; simp), if_neg (by rw [n0]; simp), if_pos (by rw [y]), y]
theorem step_2 {ss : List ByteArray} {F : RdS → Fm × RdS} {r q : RdS} (h : r.2 = false) (n0 : (takeP [116, 114, 117, 101] r).1 = false) (n1 : (takeP [111, 110, 32] r).1 = false) (y : takeP [102, 114, 111, 109, 32] r = (true, q)) : stepP ss F r = namedP ss 3 q := by
  unfold stepP
  rw [if_neg (by rw [h]; simp), if_neg (by rw [n0]; simp), if_neg (by rw [n1]; simp), if_pos (by rw [y]), y]
theorem step_3 {ss : List ByteArray} {F : RdS → Fm × RdS} {r q : RdS} (h : r.2 = false) (n0 : (takeP [116, 114, 117, 101] r).1 = false) (n1 : (takeP [111, 110, 32] r).1 = false) (n2 : (takeP [102, 114, 111, 109, 32] r).1 = false) (y : takeP [115, 104, 97, 114, 101, 100, 58] r = (true, q)) : stepP ss F r = (.mk 4 0 (varP q).1 0 [], (varP q).2) := by
  unfold stepP
  rw [if_neg (by rw [h]; simp), if_neg (by rw [n0]; simp), if_neg (by rw [n1]; simp), if_neg (by rw [n2]; simp), if_pos (by rw [y]), y]
theorem step_4 {ss : List ByteArray} {F : RdS → Fm × RdS} {r q : RdS} (h : r.2 = false) (n0 : (takeP [116, 114, 117, 101] r).1 = false) (n1 : (takeP [111, 110, 32] r).1 = false) (n2 : (takeP [102, 114, 111, 109, 32] r).1 = false) (n3 : (takeP [115, 104, 97, 114, 101, 100, 58] r).1 = false) (y : takeP [110, 101, 120, 116, 58] r = (true, q)) : stepP ss F r = pairP 5 q := by
  unfold stepP
  rw [if_neg (by rw [h]; simp), if_neg (by rw [n0]; simp), if_neg (by rw [n1]; simp), if_neg (by rw [n2]; simp), if_neg (by rw [n3]; simp), if_pos (by rw [y]), y]
theorem step_5 {ss : List ByteArray} {F : RdS → Fm × RdS} {r q : RdS} (h : r.2 = false) (n0 : (takeP [116, 114, 117, 101] r).1 = false) (n1 : (takeP [111, 110, 32] r).1 = false) (n2 : (takeP [102, 114, 111, 109, 32] r).1 = false) (n3 : (takeP [115, 104, 97, 114, 101, 100, 58] r).1 = false) (n4 : (takeP [110, 101, 120, 116, 58] r).1 = false) (y : takeP [115, 97, 109, 101, 58] r = (true, q)) : stepP ss F r = pairP 6 q := by
  unfold stepP
  rw [if_neg (by rw [h]; simp), if_neg (by rw [n0]; simp), if_neg (by rw [n1]; simp), if_neg (by rw [n2]; simp), if_neg (by rw [n3]; simp), if_neg (by rw [n4]; simp), if_pos (by rw [y]), y]
theorem step_6 {ss : List ByteArray} {F : RdS → Fm × RdS} {r q : RdS} (h : r.2 = false) (n0 : (takeP [116, 114, 117, 101] r).1 = false) (n1 : (takeP [111, 110, 32] r).1 = false) (n2 : (takeP [102, 114, 111, 109, 32] r).1 = false) (n3 : (takeP [115, 104, 97, 114, 101, 100, 58] r).1 = false) (n4 : (takeP [110, 101, 120, 116, 58] r).1 = false) (n5 : (takeP [115, 97, 109, 101, 58] r).1 = false) (y : takeP [112, 97, 116, 104, 58] r = (true, q)) : stepP ss F r = pairP 7 q := by
  unfold stepP
  rw [if_neg (by rw [h]; simp), if_neg (by rw [n0]; simp), if_neg (by rw [n1]; simp), if_neg (by rw [n2]; simp), if_neg (by rw [n3]; simp), if_neg (by rw [n4]; simp), if_neg (by rw [n5]; simp), if_pos (by rw [y]), y]
theorem step_7 {ss : List ByteArray} {F : RdS → Fm × RdS} {r q : RdS} (h : r.2 = false) (n0 : (takeP [116, 114, 117, 101] r).1 = false) (n1 : (takeP [111, 110, 32] r).1 = false) (n2 : (takeP [102, 114, 111, 109, 32] r).1 = false) (n3 : (takeP [115, 104, 97, 114, 101, 100, 58] r).1 = false) (n4 : (takeP [110, 101, 120, 116, 58] r).1 = false) (n5 : (takeP [115, 97, 109, 101, 58] r).1 = false) (n6 : (takeP [112, 97, 116, 104, 58] r).1 = false) (y : takeP [33] r = (true, q)) : stepP ss F r = (.mk 8 0 0 0 [(F q).1], (F q).2) := by
  unfold stepP
  rw [if_neg (by rw [h]; simp), if_neg (by rw [n0]; simp), if_neg (by rw [n1]; simp), if_neg (by rw [n2]; simp), if_neg (by rw [n3]; simp), if_neg (by rw [n4]; simp), if_neg (by rw [n5]; simp), if_neg (by rw [n6]; simp), if_pos (by rw [y]), y]
theorem step_8 {ss : List ByteArray} {F : RdS → Fm × RdS} {r q : RdS} (h : r.2 = false) (n0 : (takeP [116, 114, 117, 101] r).1 = false) (n1 : (takeP [111, 110, 32] r).1 = false) (n2 : (takeP [102, 114, 111, 109, 32] r).1 = false) (n3 : (takeP [115, 104, 97, 114, 101, 100, 58] r).1 = false) (n4 : (takeP [110, 101, 120, 116, 58] r).1 = false) (n5 : (takeP [115, 97, 109, 101, 58] r).1 = false) (n6 : (takeP [112, 97, 116, 104, 58] r).1 = false) (n7 : (takeP [33] r).1 = false) (y : takeP [115, 111, 109, 101, 32] r = (true, q)) : stepP ss F r = bindP 11 F q := by
  unfold stepP
  rw [if_neg (by rw [h]; simp), if_neg (by rw [n0]; simp), if_neg (by rw [n1]; simp), if_neg (by rw [n2]; simp), if_neg (by rw [n3]; simp), if_neg (by rw [n4]; simp), if_neg (by rw [n5]; simp), if_neg (by rw [n6]; simp), if_neg (by rw [n7]; simp), if_pos (by rw [y]), y]
theorem step_9 {ss : List ByteArray} {F : RdS → Fm × RdS} {r q : RdS} (h : r.2 = false) (n0 : (takeP [116, 114, 117, 101] r).1 = false) (n1 : (takeP [111, 110, 32] r).1 = false) (n2 : (takeP [102, 114, 111, 109, 32] r).1 = false) (n3 : (takeP [115, 104, 97, 114, 101, 100, 58] r).1 = false) (n4 : (takeP [110, 101, 120, 116, 58] r).1 = false) (n5 : (takeP [115, 97, 109, 101, 58] r).1 = false) (n6 : (takeP [112, 97, 116, 104, 58] r).1 = false) (n7 : (takeP [33] r).1 = false) (n8 : (takeP [115, 111, 109, 101, 32] r).1 = false) (y : takeP [97, 108, 108, 32] r = (true, q)) : stepP ss F r = bindP 12 F q := by
  unfold stepP
  rw [if_neg (by rw [h]; simp), if_neg (by rw [n0]; simp), if_neg (by rw [n1]; simp), if_neg (by rw [n2]; simp), if_neg (by rw [n3]; simp), if_neg (by rw [n4]; simp), if_neg (by rw [n5]; simp), if_neg (by rw [n6]; simp), if_neg (by rw [n7]; simp), if_neg (by rw [n8]; simp), if_pos (by rw [y]), y]
theorem step_10 {ss : List ByteArray} {F : RdS → Fm × RdS} {r q : RdS} (h : r.2 = false) (n0 : (takeP [116, 114, 117, 101] r).1 = false) (n1 : (takeP [111, 110, 32] r).1 = false) (n2 : (takeP [102, 114, 111, 109, 32] r).1 = false) (n3 : (takeP [115, 104, 97, 114, 101, 100, 58] r).1 = false) (n4 : (takeP [110, 101, 120, 116, 58] r).1 = false) (n5 : (takeP [115, 97, 109, 101, 58] r).1 = false) (n6 : (takeP [112, 97, 116, 104, 58] r).1 = false) (n7 : (takeP [33] r).1 = false) (n8 : (takeP [115, 111, 109, 101, 32] r).1 = false) (n9 : (takeP [97, 108, 108, 32] r).1 = false) (y : mustP [40] r = q) (hq : q.2 = true) : stepP ss F r = (zeroF, q) := by
  unfold stepP
  rw [if_neg (by rw [h]; simp), if_neg (by rw [n0]; simp), if_neg (by rw [n1]; simp), if_neg (by rw [n2]; simp), if_neg (by rw [n3]; simp), if_neg (by rw [n4]; simp), if_neg (by rw [n5]; simp), if_neg (by rw [n6]; simp), if_neg (by rw [n7]; simp), if_neg (by rw [n8]; simp), if_neg (by rw [n9]; simp), y, if_pos hq]
theorem step_11 {ss : List ByteArray} {F : RdS → Fm × RdS} {r q : RdS} (h : r.2 = false) (n0 : (takeP [116, 114, 117, 101] r).1 = false) (n1 : (takeP [111, 110, 32] r).1 = false) (n2 : (takeP [102, 114, 111, 109, 32] r).1 = false) (n3 : (takeP [115, 104, 97, 114, 101, 100, 58] r).1 = false) (n4 : (takeP [110, 101, 120, 116, 58] r).1 = false) (n5 : (takeP [115, 97, 109, 101, 58] r).1 = false) (n6 : (takeP [112, 97, 116, 104, 58] r).1 = false) (n7 : (takeP [33] r).1 = false) (n8 : (takeP [115, 111, 109, 101, 32] r).1 = false) (n9 : (takeP [97, 108, 108, 32] r).1 = false) (y : mustP [40] r = q) (hq : q.2 = false) : stepP ss F r = twoP F q := by
  unfold stepP
  rw [if_neg (by rw [h]; simp), if_neg (by rw [n0]; simp), if_neg (by rw [n1]; simp), if_neg (by rw [n2]; simp), if_neg (by rw [n3]; simp), if_neg (by rw [n4]; simp), if_neg (by rw [n5]; simp), if_neg (by rw [n6]; simp), if_neg (by rw [n7]; simp), if_neg (by rw [n8]; simp), if_neg (by rw [n9]; simp), y, if_neg (by rw [hq]; simp)]
section
variable {W V V' : World} {R : Nat} {va : Option Addr} {vca n : Nat} {s w : ByteArray} {k : Nat} {b : Bool} {xs : List Value}
theorem PS.marked (h : RdAt W R va vca n s k b) (c : Bool) (xs : List Value) (t : TypeId) : PS W R va vca n s k c xs ((W.setCell ⟨R, 3, none⟩ (.bool c)).alloc (.cells xs.toArray t)) := by
  have hz : (W.setCell ⟨R, 3, none⟩ (.bool c)).heap.size = W.heap.size := by simp
  have hb := (Below.refl (W.setCell ⟨R, 3, none⟩ (.bool c)).heap.size (W.setCell ⟨R, 3, none⟩ (.bool c))).alloc (Nat.le_refl _) (.cells xs.toArray t)
  have hx := BoxL.new (W.setCell ⟨R, 3, none⟩ (.bool c)) xs t
  rw [hz] at hx
  exact ⟨(h.mark c).below hb, hx, (turn_set W R 3 (.bool c)).trans (Turn.of_below hb), h.box.lt⟩
theorem PS.took (P : PS W R va vca n s k b xs V) {k' : Nat} {b' : Bool} (h : RdAt V' R va vca n s k' b') (t : Turn R (R + 1) V V') : PS W R va vca n s k' b' xs V' := ⟨h, P.box.turn t (.inr P.lt), P.turn.trans t, P.lt⟩
theorem took_yes (P : PS W R va vca n s k false xs V) (hc : tkB w s k false = true) (h : RdAt V' R va vca n s (if tkB w s k false = true then k + w.size else k) false) (t : Turn R (R + 1) V V') : ∃ k1, takeP w.data.toList (rdS s k false) = (true, rdS s k1 false) ∧ PS W R va vca n s k1 false xs V' :=
  ⟨k + w.size, Prod.ext hc (by rw [tk_snd, if_pos hc]), by rw [if_pos hc] at h; exact P.took h t⟩
theorem took_no (P : PS W R va vca n s k false xs V) (hc : tkB w s k false = false) (h : RdAt V' R va vca n s (if tkB w s k false = true then k + w.size else k) false) (t : Turn R (R + 1) V V') : PS W R va vca n s k false xs V' := by
  rw [if_neg (by rw [hc]; simp)] at h
  exact P.took h t
theorem passed_end (P : PS W R va vca n s k b zero5 V) {t : Ft} {lo : Nat} (M : t.Mine V lo V.heap.size) (hlo : W.heap.size + 1 ≤ lo) : ReadEnd R va vca n s (t.er, rdS s k b) W (.returned t.val) (((((V.setCell ⟨W.heap.size, 0, none⟩ (.int .i64 t.kd)).setCell ⟨W.heap.size, 1, none⟩ (.int .i64 t.k)).setCell ⟨W.heap.size, 2, none⟩ (.int .i64 t.u)).setCell ⟨W.heap.size, 3, none⟩ (.int .i64 t.v)).setCell ⟨W.heap.size, 4, none⟩ (.slice t.a t.args.length t.cap)) := by
  have PE := ((((P.res 0 (.int .i64 t.kd)).res 1 (.int .i64 t.k)).res 2 (.int .i64 t.u)).res 3 (.int .i64 t.v)).res 4 (.slice t.a t.args.length t.cap)
  have hTT := ((((turn_set V W.heap.size 0 (.int .i64 t.kd)).trans (turn_set _ W.heap.size 1 (.int .i64 t.k))).trans (turn_set _ W.heap.size 2 (.int .i64 t.u))).trans (turn_set _ W.heap.size 3 (.int .i64 t.v))).trans (turn_set _ W.heap.size 4 (.slice t.a t.args.length t.cap))
  have ME := Ft.Mine.turn hTT _ M (.inl (by omega))
  have hz := PE.turn.size
  refine ⟨t, rfl, rfl, ?_, PE.fin⟩
  have hzz : (((((V.setCell ⟨W.heap.size, 0, none⟩ (.int .i64 t.kd)).setCell ⟨W.heap.size, 1, none⟩ (.int .i64 t.k)).setCell ⟨W.heap.size, 2, none⟩ (.int .i64 t.u)).setCell ⟨W.heap.size, 3, none⟩ (.int .i64 t.v)).setCell ⟨W.heap.size, 4, none⟩ (.slice t.a t.args.length t.cap)).heap.size = V.heap.size := by simp
  rw [hzz]
  exact Ft.Mine.grow _ ME (by omega) (Nat.le_refl _) (by rw [hzz]; exact Nat.le_refl _)
end
set_option maxRecDepth 100000 in
set_option maxHeartbeats 6400000 in
theorem specAllBad (R : Nat) (va : Option Addr) (vca n : Nat) (s : ByteArray) (k : Nat) (b : Bool) (d : Int) (W : World) (hd : b = true ∨ 12 < d) (h : RdAt W R va vca n s k b) :
    Calls Tryz.prog 42 #[.pointer (some ⟨R, 0, none⟩), .int .i64 d] W (ReadEnd R va vca n s (zeroF, rdS s k true) W) := by
  obtain ⟨W0, hW0⟩ : ∃ V, (W.setCell ⟨R, 3, none⟩ (.bool true)).alloc (.cells #[.int .i64 0, .int .i64 0, .int .i64 0, .int .i64 0, .slice none 0 0] 27) = V := ⟨_, rfl⟩
  have P0 : PS W R va vca n s k true zero5 W0 := by rw [← hW0]; exact PS.marked h true zero5 _
  have hlt := P0.lt
  have r0 := h.box.c 3 _ rfl
  have r1 := (h.mark true).box.c 3 _ rfl
  have rf := h.box.f
  have HW0 := Lib.hid hW0
  have hsz := P0.turn.size
  have b0 := P0.box.c 0 _ rfl
  have b1 := P0.box.c 1 _ rfl
  have b2 := P0.box.c 2 _ rfl
  have b3 := P0.box.c 3 _ rfl
  have b4 := P0.box.c 4 _ rfl
  have HP := Lib.hid P0
  clear hW0 h P0
  cases b with
  | true =>
    clear hd
    go_enter Tryz.func42, Tryz.ntmps42
    go_wp2_with fail
    rw [HW0.out]
    exact bodyPost_ret (v := .agg #[.int .i64 0, .int .i64 0, .int .i64 0, .int .i64 0, .slice none 0 0]) (by simp [results, Tryz.results42, go_sem, b0, b1, b2, b3, b4]) rfl ⟨.mk 0 0 0 0 none 0 [], rfl, rfl, Ft.mine_leaf _ _ _ _ hsz (Nat.le_refl _), HP.out.fin⟩
  | false =>
    have hgd : decide ((12 : Int) < d) = true := by simpa using hd
    clear hd
    go_enter Tryz.func42, Tryz.ntmps42
    go_wp2_with fail
    rw [HW0.out]
    exact bodyPost_ret (v := .agg #[.int .i64 0, .int .i64 0, .int .i64 0, .int .i64 0, .slice none 0 0]) (by simp [results, Tryz.results42, go_sem, b0, b1, b2, b3, b4]) rfl ⟨.mk 0 0 0 0 none 0 [], rfl, rfl, Ft.mine_leaf _ _ _ _ hsz (Nat.le_refl _), HP.out.fin⟩
set_option maxRecDepth 100000 in
set_option maxHeartbeats 12800000 in
theorem specAllGo (R : Nat) (va : Option Addr) (vca : Nat) (ss : List ByteArray) (s : ByteArray) (k : Nat) (d : Int) (F : RdS → Fm × RdS) (W : World) (hs : s.size ≤ 1099511627776) (hl : ss.length ≤ maxLen) (hd : 1 ≤ d ∧ d ≤ 12) (hrow : Row W R va (strVals ss)) (h : RdAt W R va vca ss.length s k false)
    (IH : ∀ (k : Nat) (b : Bool) (V : World), RdAt V R va vca ss.length s k b → Row V R va (strVals ss) → Calls Tryz.prog 42 #[.pointer (some ⟨R, 0, none⟩), .int .i64 (d + 1)] V (ReadEnd R va vca ss.length s (F (rdS s k b)) V)) :
    Calls Tryz.prog 42 #[.pointer (some ⟨R, 0, none⟩), .int .i64 d] W (ReadEnd R va vca ss.length s (stepP ss F (rdS s k false)) W) := by
  obtain ⟨W0, hW0⟩ : ∃ V, (W.setCell ⟨R, 3, none⟩ (.bool false)).alloc (.cells #[.int .i64 0, .int .i64 0, .int .i64 0, .int .i64 0, .slice none 0 0] 27) = V := ⟨_, rfl⟩
  have P0 : PS W R va vca ss.length s k false zero5 W0 := by rw [← hW0]; exact PS.marked h false zero5 _
  have HW0 := Lib.hid hW0
  have HI := Lib.hid IH
  have HROW := Lib.hid hrow
  have hlt := P0.lt
  have hgd : decide ((12 : Int) < d) = false := by simp; omega
  have hwr : IntKind.i64.wrap (d + 1) = d + 1 := by rw [IntKind.wrap_i64]; omega
  have r0 := h.box.c 3 _ rfl
  have r1 := (h.mark false).box.c 3 _ rfl
  have rf := h.box.f
  clear hW0 h IH hrow hd
  go_enter Tryz.func42, Tryz.ntmps42
  go_wp2_with fail
  rw [HW0.out]
  clear HW0 r0 r1 rf hgd
  refine (specTake R va vca ss.length (⟨#[116, 114, 117, 101]⟩ : ByteArray) s k false W0 (by decide) hs P0.rd).mono ?_
  rintro e w1 ⟨rfl, h1, t1⟩
  obtain ⟨c, hc⟩ : ∃ c, tkB (⟨#[116, 114, 117, 101]⟩ : ByteArray) s k false = c := ⟨_, rfl⟩
  rw [show tkB (⟨#[116, 114, 117, 101]⟩ : ByteArray) s k false = c from hc]
  cases c with
  | true =>
    obtain ⟨k1, e1, P1⟩ := took_yes P0 hc h1 t1
    have HY := Lib.hid (show takeP [116, 114, 117, 101] (rdS s k false) = (true, rdS s k1 false) from e1)
    clear P0 hc h1 t1 e1
    have x0 := P1.box.c 0 _ rfl
    have x1 := P1.box.c 1 _ rfl
    have x2 := P1.box.c 2 _ rfl
    have x3 := P1.box.c 3 _ rfl
    have x4 := P1.box.c 4 _ rfl
    have xf := P1.box.f
    have xl := P1.box.lt
    have PE := Lib.hid (((((P1.res 0 (.int .i64 1)).res 1 (.int .i64 0)).res 2 (.int .i64 0)).res 3 (.int .i64 0)).res 4 (.slice none 0 0))
    have HT := Lib.hid (step_0 (ss := ss) (F := F) (r := rdS s k false) rfl  HY.out)
    clear P1
    go_wp2_with fail
    have hsz := PE.out.turn.size
    exact bodyPost_ret (v := .agg #[.int .i64 1, .int .i64 0, .int .i64 0, .int .i64 0, .slice none 0 0]) (by simp [results, Tryz.results42, go_sem, x0, x1, x2, x3, x4]) rfl ⟨.mk 1 0 0 0 none 0 [], rfl, by rw [HT.out]; rfl, Ft.mine_leaf _ _ _ _ hsz (Nat.le_refl _), by rw [HT.out]; exact PE.out.fin⟩
  | false =>
    have Q0 := took_no P0 hc h1 t1
    have HN0 := Lib.hid (show (takeP [116, 114, 117, 101] (rdS s k false)).1 = false from hc)
    clear P0 hc h1 t1
    go_wp2_with fail
    refine (specTake R va vca ss.length (⟨#[111, 110, 32]⟩ : ByteArray) s k false w1 (by decide) hs Q0.rd).mono ?_
    rintro e w1 ⟨rfl, h1, t1⟩
    obtain ⟨c, hc⟩ : ∃ c, tkB (⟨#[111, 110, 32]⟩ : ByteArray) s k false = c := ⟨_, rfl⟩
    rw [show tkB (⟨#[111, 110, 32]⟩ : ByteArray) s k false = c from hc]
    cases c with
    | true =>
      obtain ⟨k1, e1, P1⟩ := took_yes Q0 hc h1 t1
      have HY := Lib.hid (show takeP [111, 110, 32] (rdS s k false) = (true, rdS s k1 false) from e1)
      clear Q0 hc h1 t1 e1
      go_wp2_with fail
      refine (specName R va vca ss s k1 false w1 hs hl (P1.row HROW.out) P1.rd).mono ?_
      rintro e w2 ⟨rfl, s2⟩
      obtain ⟨k2, b2, e2, P2⟩ := P1.step s2
      obtain ⟨nm, hnm⟩ : ∃ u, (nameP ss (rdS s k1 false)).1 = u := ⟨_, rfl⟩
      rw [hnm]
      have HNM := Lib.hid (And.intro hnm e2)
      clear hnm e2 s2 P1
      go_wp2_with fail
      refine (specVar R va vca ss.length s k2 b2 w2 hs P2.rd).mono ?_
      rintro e w3 ⟨rfl, s2⟩
      obtain ⟨k3, b3, e2, P3⟩ := P2.step s2
      obtain ⟨u, hu⟩ : ∃ u, (varP (rdS s k2 b2)).1 = u := ⟨_, rfl⟩
      rw [hu]
      have HU := Lib.hid (And.intro hu e2)
      clear hu e2 s2 P2
      have x0 := P3.box.c 0 _ rfl
      have x1 := P3.box.c 1 _ rfl
      have x2 := P3.box.c 2 _ rfl
      have x3 := P3.box.c 3 _ rfl
      have x4 := P3.box.c 4 _ rfl
      have xf := P3.box.f
      have xl := P3.box.lt
      have PE := Lib.hid (((((P3.res 0 (.int .i64 2)).res 1 (.int .i64 nm)).res 2 (.int .i64 u)).res 3 (.int .i64 0)).res 4 (.slice none 0 0))
      have HT := Lib.hid (show stepP ss F (rdS s k false) = (.mk 2 nm u 0 [], rdS s k3 b3) from by rw [step_1 (ss := ss) (F := F) (r := rdS s k false) rfl HN0.out HY.out]; unfold namedP; rw [HNM.out.1, HNM.out.2, HU.out.1, HU.out.2])
      clear P3
      go_wp2_with fail
      have hsz := PE.out.turn.size
      exact bodyPost_ret (v := .agg #[.int .i64 2, .int .i64 nm, .int .i64 u, .int .i64 0, .slice none 0 0]) (by simp [results, Tryz.results42, go_sem, x0, x1, x2, x3, x4]) rfl ⟨.mk 2 nm u 0 none 0 [], rfl, by rw [HT.out]; rfl, Ft.mine_leaf _ _ _ _ hsz (Nat.le_refl _), by rw [HT.out]; exact PE.out.fin⟩
    | false =>
      have Q1 := took_no Q0 hc h1 t1
      have HN1 := Lib.hid (show (takeP [111, 110, 32] (rdS s k false)).1 = false from hc)
      clear Q0 hc h1 t1
      go_wp2_with fail
      refine (specTake R va vca ss.length (⟨#[102, 114, 111, 109, 32]⟩ : ByteArray) s k false w1 (by decide) hs Q1.rd).mono ?_
      rintro e w1 ⟨rfl, h1, t1⟩
      obtain ⟨c, hc⟩ : ∃ c, tkB (⟨#[102, 114, 111, 109, 32]⟩ : ByteArray) s k false = c := ⟨_, rfl⟩
      rw [show tkB (⟨#[102, 114, 111, 109, 32]⟩ : ByteArray) s k false = c from hc]
      cases c with
      | true =>
        obtain ⟨k1, e1, P1⟩ := took_yes Q1 hc h1 t1
        have HY := Lib.hid (show takeP [102, 114, 111, 109, 32] (rdS s k false) = (true, rdS s k1 false) from e1)
        clear Q1 hc h1 t1 e1
        go_wp2_with fail
        refine (specName R va vca ss s k1 false w1 hs hl (P1.row HROW.out) P1.rd).mono ?_
        rintro e w2 ⟨rfl, s2⟩
        obtain ⟨k2, b2, e2, P2⟩ := P1.step s2
        obtain ⟨nm, hnm⟩ : ∃ u, (nameP ss (rdS s k1 false)).1 = u := ⟨_, rfl⟩
        rw [hnm]
        have HNM := Lib.hid (And.intro hnm e2)
        clear hnm e2 s2 P1
        go_wp2_with fail
        refine (specVar R va vca ss.length s k2 b2 w2 hs P2.rd).mono ?_
        rintro e w3 ⟨rfl, s2⟩
        obtain ⟨k3, b3, e2, P3⟩ := P2.step s2
        obtain ⟨u, hu⟩ : ∃ u, (varP (rdS s k2 b2)).1 = u := ⟨_, rfl⟩
        rw [hu]
        have HU := Lib.hid (And.intro hu e2)
        clear hu e2 s2 P2
        have x0 := P3.box.c 0 _ rfl
        have x1 := P3.box.c 1 _ rfl
        have x2 := P3.box.c 2 _ rfl
        have x3 := P3.box.c 3 _ rfl
        have x4 := P3.box.c 4 _ rfl
        have xf := P3.box.f
        have xl := P3.box.lt
        have PE := Lib.hid (((((P3.res 0 (.int .i64 3)).res 1 (.int .i64 nm)).res 2 (.int .i64 u)).res 3 (.int .i64 0)).res 4 (.slice none 0 0))
        have HT := Lib.hid (show stepP ss F (rdS s k false) = (.mk 3 nm u 0 [], rdS s k3 b3) from by rw [step_2 (ss := ss) (F := F) (r := rdS s k false) rfl HN0.out HN1.out HY.out]; unfold namedP; rw [HNM.out.1, HNM.out.2, HU.out.1, HU.out.2])
        clear P3
        go_wp2_with fail
        have hsz := PE.out.turn.size
        exact bodyPost_ret (v := .agg #[.int .i64 3, .int .i64 nm, .int .i64 u, .int .i64 0, .slice none 0 0]) (by simp [results, Tryz.results42, go_sem, x0, x1, x2, x3, x4]) rfl ⟨.mk 3 nm u 0 none 0 [], rfl, by rw [HT.out]; rfl, Ft.mine_leaf _ _ _ _ hsz (Nat.le_refl _), by rw [HT.out]; exact PE.out.fin⟩
      | false =>
        have Q2 := took_no Q1 hc h1 t1
        have HN2 := Lib.hid (show (takeP [102, 114, 111, 109, 32] (rdS s k false)).1 = false from hc)
        clear Q1 hc h1 t1
        go_wp2_with fail
        refine (specTake R va vca ss.length (⟨#[115, 104, 97, 114, 101, 100, 58]⟩ : ByteArray) s k false w1 (by decide) hs Q2.rd).mono ?_
        rintro e w1 ⟨rfl, h1, t1⟩
        obtain ⟨c, hc⟩ : ∃ c, tkB (⟨#[115, 104, 97, 114, 101, 100, 58]⟩ : ByteArray) s k false = c := ⟨_, rfl⟩
        rw [show tkB (⟨#[115, 104, 97, 114, 101, 100, 58]⟩ : ByteArray) s k false = c from hc]
        cases c with
        | true =>
          obtain ⟨k1, e1, P1⟩ := took_yes Q2 hc h1 t1
          have HY := Lib.hid (show takeP [115, 104, 97, 114, 101, 100, 58] (rdS s k false) = (true, rdS s k1 false) from e1)
          clear Q2 hc h1 t1 e1
          go_wp2_with fail
          refine (specVar R va vca ss.length s k1 false w1 hs P1.rd).mono ?_
          rintro e w3 ⟨rfl, s2⟩
          obtain ⟨k3, b3, e2, P3⟩ := P1.step s2
          obtain ⟨u, hu⟩ : ∃ u, (varP (rdS s k1 false)).1 = u := ⟨_, rfl⟩
          rw [hu]
          have HU := Lib.hid (And.intro hu e2)
          clear hu e2 s2 P1
          have x0 := P3.box.c 0 _ rfl
          have x1 := P3.box.c 1 _ rfl
          have x2 := P3.box.c 2 _ rfl
          have x3 := P3.box.c 3 _ rfl
          have x4 := P3.box.c 4 _ rfl
          have xf := P3.box.f
          have xl := P3.box.lt
          have PE := Lib.hid (((((P3.res 0 (.int .i64 4)).res 1 (.int .i64 0)).res 2 (.int .i64 u)).res 3 (.int .i64 0)).res 4 (.slice none 0 0))
          have HT := Lib.hid (show stepP ss F (rdS s k false) = (.mk 4 0 u 0 [], rdS s k3 b3) from by rw [step_3 (ss := ss) (F := F) (r := rdS s k false) rfl HN0.out HN1.out HN2.out HY.out, HU.out.1, HU.out.2])
          clear P3
          go_wp2_with fail
          have hsz := PE.out.turn.size
          exact bodyPost_ret (v := .agg #[.int .i64 4, .int .i64 0, .int .i64 u, .int .i64 0, .slice none 0 0]) (by simp [results, Tryz.results42, go_sem, x0, x1, x2, x3, x4]) rfl ⟨.mk 4 0 u 0 none 0 [], rfl, by rw [HT.out]; rfl, Ft.mine_leaf _ _ _ _ hsz (Nat.le_refl _), by rw [HT.out]; exact PE.out.fin⟩
        | false =>
          have Q3 := took_no Q2 hc h1 t1
          have HN3 := Lib.hid (show (takeP [115, 104, 97, 114, 101, 100, 58] (rdS s k false)).1 = false from hc)
          clear Q2 hc h1 t1
          go_wp2_with fail
          refine (specTake R va vca ss.length (⟨#[110, 101, 120, 116, 58]⟩ : ByteArray) s k false w1 (by decide) hs Q3.rd).mono ?_
          rintro e w1 ⟨rfl, h1, t1⟩
          obtain ⟨c, hc⟩ : ∃ c, tkB (⟨#[110, 101, 120, 116, 58]⟩ : ByteArray) s k false = c := ⟨_, rfl⟩
          rw [show tkB (⟨#[110, 101, 120, 116, 58]⟩ : ByteArray) s k false = c from hc]
          cases c with
          | true =>
            obtain ⟨k1, e1, P1⟩ := took_yes Q3 hc h1 t1
            have HY := Lib.hid (show takeP [110, 101, 120, 116, 58] (rdS s k false) = (true, rdS s k1 false) from e1)
            clear Q3 hc h1 t1 e1
            go_wp2_with fail
            have hz0 := P1.box.lt
            refine (specPair R va vca ss.length s k1 false 5 w1 hs P1.rd).mono ?_
            rintro e w5 ⟨t, rfl, hte, htm, s5⟩
            obtain ⟨k5, b5, e5, P5⟩ := P1.step s5
            have x0 := P5.box.c 0 _ rfl
            have x1 := P5.box.c 1 _ rfl
            have x2 := P5.box.c 2 _ rfl
            have x3 := P5.box.c 3 _ rfl
            have x4 := P5.box.c 4 _ rfl
            have xf := P5.box.f
            have xl := P5.box.lt
            have HEND := Lib.hid (passed_end P5 htm hz0)
            have HT := Lib.hid (show stepP ss F (rdS s k false) = (t.er, rdS s k5 b5) from by rw [step_4 (ss := ss) (F := F) (r := rdS s k false) rfl HN0.out HN1.out HN2.out HN3.out HY.out]; exact Prod.ext hte.symm e5)
            clear P5 s5 e5 htm hte P1 hz0
            go_wp2_with fail
            exact bodyPost_ret (v := .agg #[.int .i64 t.kd, .int .i64 t.k, .int .i64 t.u, .int .i64 t.v, .slice t.a t.args.length t.cap]) (by simp [results, Tryz.results42, go_sem, x0, x1, x2, x3, x4]) rfl (by rw [HT.out]; exact HEND.out)
          | false =>
            have Q4 := took_no Q3 hc h1 t1
            have HN4 := Lib.hid (show (takeP [110, 101, 120, 116, 58] (rdS s k false)).1 = false from hc)
            clear Q3 hc h1 t1
            go_wp2_with fail
            refine (specTake R va vca ss.length (⟨#[115, 97, 109, 101, 58]⟩ : ByteArray) s k false w1 (by decide) hs Q4.rd).mono ?_
            rintro e w1 ⟨rfl, h1, t1⟩
            obtain ⟨c, hc⟩ : ∃ c, tkB (⟨#[115, 97, 109, 101, 58]⟩ : ByteArray) s k false = c := ⟨_, rfl⟩
            rw [show tkB (⟨#[115, 97, 109, 101, 58]⟩ : ByteArray) s k false = c from hc]
            cases c with
            | true =>
              obtain ⟨k1, e1, P1⟩ := took_yes Q4 hc h1 t1
              have HY := Lib.hid (show takeP [115, 97, 109, 101, 58] (rdS s k false) = (true, rdS s k1 false) from e1)
              clear Q4 hc h1 t1 e1
              go_wp2_with fail
              have hz0 := P1.box.lt
              refine (specPair R va vca ss.length s k1 false 6 w1 hs P1.rd).mono ?_
              rintro e w5 ⟨t, rfl, hte, htm, s5⟩
              obtain ⟨k5, b5, e5, P5⟩ := P1.step s5
              have x0 := P5.box.c 0 _ rfl
              have x1 := P5.box.c 1 _ rfl
              have x2 := P5.box.c 2 _ rfl
              have x3 := P5.box.c 3 _ rfl
              have x4 := P5.box.c 4 _ rfl
              have xf := P5.box.f
              have xl := P5.box.lt
              have HEND := Lib.hid (passed_end P5 htm hz0)
              have HT := Lib.hid (show stepP ss F (rdS s k false) = (t.er, rdS s k5 b5) from by rw [step_5 (ss := ss) (F := F) (r := rdS s k false) rfl HN0.out HN1.out HN2.out HN3.out HN4.out HY.out]; exact Prod.ext hte.symm e5)
              clear P5 s5 e5 htm hte P1 hz0
              go_wp2_with fail
              exact bodyPost_ret (v := .agg #[.int .i64 t.kd, .int .i64 t.k, .int .i64 t.u, .int .i64 t.v, .slice t.a t.args.length t.cap]) (by simp [results, Tryz.results42, go_sem, x0, x1, x2, x3, x4]) rfl (by rw [HT.out]; exact HEND.out)
            | false =>
              have Q5 := took_no Q4 hc h1 t1
              have HN5 := Lib.hid (show (takeP [115, 97, 109, 101, 58] (rdS s k false)).1 = false from hc)
              clear Q4 hc h1 t1
              go_wp2_with fail
              refine (specTake R va vca ss.length (⟨#[112, 97, 116, 104, 58]⟩ : ByteArray) s k false w1 (by decide) hs Q5.rd).mono ?_
              rintro e w1 ⟨rfl, h1, t1⟩
              obtain ⟨c, hc⟩ : ∃ c, tkB (⟨#[112, 97, 116, 104, 58]⟩ : ByteArray) s k false = c := ⟨_, rfl⟩
              rw [show tkB (⟨#[112, 97, 116, 104, 58]⟩ : ByteArray) s k false = c from hc]
              cases c with
              | true =>
                obtain ⟨k1, e1, P1⟩ := took_yes Q5 hc h1 t1
                have HY := Lib.hid (show takeP [112, 97, 116, 104, 58] (rdS s k false) = (true, rdS s k1 false) from e1)
                clear Q5 hc h1 t1 e1
                go_wp2_with fail
                have hz0 := P1.box.lt
                refine (specPair R va vca ss.length s k1 false 7 w1 hs P1.rd).mono ?_
                rintro e w5 ⟨t, rfl, hte, htm, s5⟩
                obtain ⟨k5, b5, e5, P5⟩ := P1.step s5
                have x0 := P5.box.c 0 _ rfl
                have x1 := P5.box.c 1 _ rfl
                have x2 := P5.box.c 2 _ rfl
                have x3 := P5.box.c 3 _ rfl
                have x4 := P5.box.c 4 _ rfl
                have xf := P5.box.f
                have xl := P5.box.lt
                have HEND := Lib.hid (passed_end P5 htm hz0)
                have HT := Lib.hid (show stepP ss F (rdS s k false) = (t.er, rdS s k5 b5) from by rw [step_6 (ss := ss) (F := F) (r := rdS s k false) rfl HN0.out HN1.out HN2.out HN3.out HN4.out HN5.out HY.out]; exact Prod.ext hte.symm e5)
                clear P5 s5 e5 htm hte P1 hz0
                go_wp2_with fail
                exact bodyPost_ret (v := .agg #[.int .i64 t.kd, .int .i64 t.k, .int .i64 t.u, .int .i64 t.v, .slice t.a t.args.length t.cap]) (by simp [results, Tryz.results42, go_sem, x0, x1, x2, x3, x4]) rfl (by rw [HT.out]; exact HEND.out)
              | false =>
                have Q6 := took_no Q5 hc h1 t1
                have HN6 := Lib.hid (show (takeP [112, 97, 116, 104, 58] (rdS s k false)).1 = false from hc)
                clear Q5 hc h1 t1
                go_wp2_with fail
                refine (specTake R va vca ss.length (⟨#[33]⟩ : ByteArray) s k false w1 (by decide) hs Q6.rd).mono ?_
                rintro e w1 ⟨rfl, h1, t1⟩
                obtain ⟨c, hc⟩ : ∃ c, tkB (⟨#[33]⟩ : ByteArray) s k false = c := ⟨_, rfl⟩
                rw [show tkB (⟨#[33]⟩ : ByteArray) s k false = c from hc]
                cases c with
                | true =>
                  obtain ⟨k1, e1, P1⟩ := took_yes Q6 hc h1 t1
                  have HY := Lib.hid (show takeP [33] (rdS s k false) = (true, rdS s k1 false) from e1)
                  clear Q6 hc h1 t1 e1
                  go_wp2_with fail
                  have hz0 := P1.box.lt
                  refine (HI.out k1 false w1 P1.rd (P1.row HROW.out)).mono ?_
                  rintro e w5 ⟨t, rfl, hte, htm, s5⟩
                  obtain ⟨k5, b5, e5, P5⟩ := P1.step s5
                  have x0 := P5.box.c 0 _ rfl
                  have x1 := P5.box.c 1 _ rfl
                  have x2 := P5.box.c 2 _ rfl
                  have x3 := P5.box.c 3 _ rfl
                  have x4 := P5.box.c 4 _ rfl
                  have xf := P5.box.f
                  have xl := P5.box.lt
                  have PE := ((((P5.res 0 (.int .i64 8)).res 1 (.int .i64 0)).res 2 (.int .i64 0)).res 3 (.int .i64 0)).res 4 (.slice (some ⟨w5.heap.size, 0, none⟩) 1 1)
                  have hTT := ((((turn_set w5 W.heap.size 0 (.int .i64 8)).trans (turn_set _ W.heap.size 1 (.int .i64 0))).trans (turn_set _ W.heap.size 2 (.int .i64 0))).trans (turn_set _ W.heap.size 3 (.int .i64 0))).trans (turn_set _ W.heap.size 4 (.slice (some ⟨w5.heap.size, 0, none⟩) 1 1))
                  have M6 := Ft.Mine.turn hTT _ htm (.inl (by omega))
                  obtain ⟨V, hV⟩ : ∃ V, ((((w5.setCell ⟨W.heap.size, 0, none⟩ (.int .i64 8)).setCell ⟨W.heap.size, 1, none⟩ (.int .i64 0)).setCell ⟨W.heap.size, 2, none⟩ (.int .i64 0)).setCell ⟨W.heap.size, 3, none⟩ (.int .i64 0)).setCell ⟨W.heap.size, 4, none⟩ (.slice (some ⟨w5.heap.size, 0, none⟩) 1 1) = V := ⟨_, rfl⟩
                  have hVs : V.heap.size = w5.heap.size := by rw [← hV]; simp
                  rw [hV] at PE M6
                  have M7 := mine_lit [t] (mines_one M6) (by rw [hVs]; exact Nat.le_refl _) (by unfold maxLen; simp) 8 0 0 0
                  rw [hVs] at M7
                  have P7 := PE.below ((Below.refl V.heap.size V).alloc (Nat.le_refl _) (.cells (fmVals [t]).toArray 27))
                  have HT := Lib.hid (show stepP ss F (rdS s k false) = (.mk 8 0 0 0 [t.er], rdS s k5 b5) from by rw [step_7 (ss := ss) (F := F) (r := rdS s k false) rfl HN0.out HN1.out HN2.out HN3.out HN4.out HN5.out HN6.out HY.out, hte, e5])
                  have HEND := Lib.hid (show ReadEnd R va vca ss.length s (stepP ss F (rdS s k false)) W (.returned (Ft.val (.mk 8 0 0 0 (some ⟨w5.heap.size, 0, none⟩) 1 [t]))) (V.alloc (.cells #[.int .i64 t.kd, .int .i64 t.k, .int .i64 t.u, .int .i64 t.v, .slice t.a t.args.length t.cap] 27)) from by
                    rw [HT.out]
                    refine ⟨_, rfl, rfl, ?_, P7.fin⟩
                    have e1 : (V.alloc (.cells #[.int .i64 t.kd, .int .i64 t.k, .int .i64 t.u, .int .i64 t.v, .slice t.a t.args.length t.cap] 27)).heap.size = w5.heap.size + 1 := by simp [hVs]
                    rw [e1]
                    exact Ft.Mine.grow _ M7 (by omega) (Nat.le_refl _) (by rw [e1]; exact Nat.le_refl _))
                  have HV := Lib.hid hV
                  clear P1 P5 M6 M7 PE P7 hTT s5 hte e5 htm hV hVs hz0 HT
                  go_wp2_with fail
                  have e := HEND.out
                  rw [← HV.out] at e
                  exact bodyPost_ret (v := .agg #[.int .i64 8, .int .i64 0, .int .i64 0, .int .i64 0, .slice (some ⟨w5.heap.size, 0, none⟩) 1 1]) (by simp [results, Tryz.results42, go_sem, x0, x1, x2, x3, x4, xl]) rfl e
                | false =>
                  have Q7 := took_no Q6 hc h1 t1
                  have HN7 := Lib.hid (show (takeP [33] (rdS s k false)).1 = false from hc)
                  clear Q6 hc h1 t1
                  go_wp2_with fail
                  refine (specTake R va vca ss.length (⟨#[115, 111, 109, 101, 32]⟩ : ByteArray) s k false w1 (by decide) hs Q7.rd).mono ?_
                  rintro e w1 ⟨rfl, h1, t1⟩
                  obtain ⟨c, hc⟩ : ∃ c, tkB (⟨#[115, 111, 109, 101, 32]⟩ : ByteArray) s k false = c := ⟨_, rfl⟩
                  rw [show tkB (⟨#[115, 111, 109, 101, 32]⟩ : ByteArray) s k false = c from hc]
                  cases c with
                  | true =>
                    obtain ⟨k1, e1, P1⟩ := took_yes Q7 hc h1 t1
                    have HY := Lib.hid (show takeP [115, 111, 109, 101, 32] (rdS s k false) = (true, rdS s k1 false) from e1)
                    clear Q7 hc h1 t1 e1
                    go_wp2_with fail
                    have hz0 := P1.box.lt
                    refine (specBind R va vca ss s k1 false 11 (d + 1) F w1 hs (P1.row HROW.out) P1.rd HI.out).mono ?_
                    rintro e w5 ⟨t, rfl, hte, htm, s5⟩
                    obtain ⟨k5, b5, e5, P5⟩ := P1.step s5
                    have x0 := P5.box.c 0 _ rfl
                    have x1 := P5.box.c 1 _ rfl
                    have x2 := P5.box.c 2 _ rfl
                    have x3 := P5.box.c 3 _ rfl
                    have x4 := P5.box.c 4 _ rfl
                    have xf := P5.box.f
                    have xl := P5.box.lt
                    have HEND := Lib.hid (passed_end P5 htm hz0)
                    have HT := Lib.hid (show stepP ss F (rdS s k false) = (t.er, rdS s k5 b5) from by rw [step_8 (ss := ss) (F := F) (r := rdS s k false) rfl HN0.out HN1.out HN2.out HN3.out HN4.out HN5.out HN6.out HN7.out HY.out]; exact Prod.ext hte.symm e5)
                    clear P5 s5 e5 htm hte P1 hz0
                    go_wp2_with fail
                    exact bodyPost_ret (v := .agg #[.int .i64 t.kd, .int .i64 t.k, .int .i64 t.u, .int .i64 t.v, .slice t.a t.args.length t.cap]) (by simp [results, Tryz.results42, go_sem, x0, x1, x2, x3, x4]) rfl (by rw [HT.out]; exact HEND.out)
                  | false =>
                    have Q8 := took_no Q7 hc h1 t1
                    have HN8 := Lib.hid (show (takeP [115, 111, 109, 101, 32] (rdS s k false)).1 = false from hc)
                    clear Q7 hc h1 t1
                    go_wp2_with fail
                    refine (specTake R va vca ss.length (⟨#[97, 108, 108, 32]⟩ : ByteArray) s k false w1 (by decide) hs Q8.rd).mono ?_
                    rintro e w1 ⟨rfl, h1, t1⟩
                    obtain ⟨c, hc⟩ : ∃ c, tkB (⟨#[97, 108, 108, 32]⟩ : ByteArray) s k false = c := ⟨_, rfl⟩
                    rw [show tkB (⟨#[97, 108, 108, 32]⟩ : ByteArray) s k false = c from hc]
                    cases c with
                    | true =>
                      obtain ⟨k1, e1, P1⟩ := took_yes Q8 hc h1 t1
                      have HY := Lib.hid (show takeP [97, 108, 108, 32] (rdS s k false) = (true, rdS s k1 false) from e1)
                      clear Q8 hc h1 t1 e1
                      go_wp2_with fail
                      have hz0 := P1.box.lt
                      refine (specBind R va vca ss s k1 false 12 (d + 1) F w1 hs (P1.row HROW.out) P1.rd HI.out).mono ?_
                      rintro e w5 ⟨t, rfl, hte, htm, s5⟩
                      obtain ⟨k5, b5, e5, P5⟩ := P1.step s5
                      have x0 := P5.box.c 0 _ rfl
                      have x1 := P5.box.c 1 _ rfl
                      have x2 := P5.box.c 2 _ rfl
                      have x3 := P5.box.c 3 _ rfl
                      have x4 := P5.box.c 4 _ rfl
                      have xf := P5.box.f
                      have xl := P5.box.lt
                      have HEND := Lib.hid (passed_end P5 htm hz0)
                      have HT := Lib.hid (show stepP ss F (rdS s k false) = (t.er, rdS s k5 b5) from by rw [step_9 (ss := ss) (F := F) (r := rdS s k false) rfl HN0.out HN1.out HN2.out HN3.out HN4.out HN5.out HN6.out HN7.out HN8.out HY.out]; exact Prod.ext hte.symm e5)
                      clear P5 s5 e5 htm hte P1 hz0
                      go_wp2_with fail
                      exact bodyPost_ret (v := .agg #[.int .i64 t.kd, .int .i64 t.k, .int .i64 t.u, .int .i64 t.v, .slice t.a t.args.length t.cap]) (by simp [results, Tryz.results42, go_sem, x0, x1, x2, x3, x4]) rfl (by rw [HT.out]; exact HEND.out)
                    | false =>
                      have Q9 := took_no Q8 hc h1 t1
                      have HN9 := Lib.hid (show (takeP [97, 108, 108, 32] (rdS s k false)).1 = false from hc)
                      clear Q8 hc h1 t1
                      go_wp2_with fail
                      refine (specMust R va vca ss.length ⟨#[40]⟩ s k false w1 (by decide) hs Q9.rd).mono ?_
                      rintro e w2 ⟨rfl, s2⟩
                      obtain ⟨k1, b1, e1, P1⟩ := Q9.step s2
                      have HY := Lib.hid (show mustP [40] (rdS s k false) = rdS s k1 b1 from e1)
                      have d3 := P1.rd.box.c 3 _ rfl
                      clear Q9 s2 e1
                      cases b1 with
                      | true =>
                        have x0 := P1.box.c 0 _ rfl
                        have x1 := P1.box.c 1 _ rfl
                        have x2 := P1.box.c 2 _ rfl
                        have x3 := P1.box.c 3 _ rfl
                        have x4 := P1.box.c 4 _ rfl
                        have xf := P1.box.f
                        have xl := P1.box.lt
                        have PE := Lib.hid (((((P1.res 0 (.int .i64 0)).res 1 (.int .i64 0)).res 2 (.int .i64 0)).res 3 (.int .i64 0)).res 4 (.slice none 0 0))
                        have HT := Lib.hid (step_10 (ss := ss) (F := F) (r := rdS s k false) rfl HN0.out HN1.out HN2.out HN3.out HN4.out HN5.out HN6.out HN7.out HN8.out HN9.out HY.out rfl)
                        clear P1
                        go_wp2_with fail
                        have hsz := PE.out.turn.size
                        exact bodyPost_ret (v := .agg #[.int .i64 0, .int .i64 0, .int .i64 0, .int .i64 0, .slice none 0 0]) (by simp [results, Tryz.results42, go_sem, x0, x1, x2, x3, x4]) rfl ⟨.mk 0 0 0 0 none 0 [], rfl, by rw [HT.out]; rfl, Ft.mine_leaf _ _ _ _ hsz (Nat.le_refl _), by rw [HT.out]; exact PE.out.fin⟩
                      | false =>
                        go_wp2_with fail
                        have hz0 := P1.box.lt
                        refine (specTwo R va vca ss s k1 false (d + 1) F w2 hs (P1.row HROW.out) P1.rd HI.out).mono ?_
                        rintro e w5 ⟨t, rfl, hte, htm, s5⟩
                        obtain ⟨k5, b5, e5, P5⟩ := P1.step s5
                        have x0 := P5.box.c 0 _ rfl
                        have x1 := P5.box.c 1 _ rfl
                        have x2 := P5.box.c 2 _ rfl
                        have x3 := P5.box.c 3 _ rfl
                        have x4 := P5.box.c 4 _ rfl
                        have xf := P5.box.f
                        have xl := P5.box.lt
                        have HEND := Lib.hid (passed_end P5 htm hz0)
                        have HT := Lib.hid (show stepP ss F (rdS s k false) = (t.er, rdS s k5 b5) from by rw [step_11 (ss := ss) (F := F) (r := rdS s k false) rfl HN0.out HN1.out HN2.out HN3.out HN4.out HN5.out HN6.out HN7.out HN8.out HN9.out HY.out rfl]; exact Prod.ext hte.symm e5)
                        clear P5 s5 e5 htm hte P1 hz0
                        go_wp2_with fail
                        exact bodyPost_ret (v := .agg #[.int .i64 t.kd, .int .i64 t.k, .int .i64 t.u, .int .i64 t.v, .slice t.a t.args.length t.cap]) (by simp [results, Tryz.results42, go_sem, x0, x1, x2, x3, x4]) rfl (by rw [HT.out]; exact HEND.out)
/-- The model's reader reads as the function does. -/
theorem specAll (R : Nat) (va : Option Addr) (vca : Nat) (ss : List ByteArray) (s : ByteArray) (hs : s.size ≤ 1099511627776) (hl : ss.length ≤ maxLen) : ∀ (n : Nat), n ≤ 12 → ∀ (k : Nat) (b : Bool) (W : World), RdAt W R va vca ss.length s k b → Row W R va (strVals ss) →
    Calls Tryz.prog 42 #[.pointer (some ⟨R, 0, none⟩), .int .i64 (13 - (n : Int))] W (ReadEnd R va vca ss.length s (allP ss n (rdS s k b)) W)
  | 0, _, k, b, W, h, _ => specAllBad R va vca ss.length s k b (13 - ((0 : Nat) : Int)) W (.inr (by omega)) h
  | n + 1, hn, k, true, W, h, _ => by
    have e : allP ss (n + 1) (rdS s k true) = (zeroF, rdS s k true) := by
      rw [allP_succ]
      unfold stepP
      rw [if_pos (show (rdS s k true).2 = true from rfl)]
    rw [e]
    exact specAllBad R va vca ss.length s k true _ W (.inl rfl) h
  | n + 1, hn, k, false, W, h, hrow => by
    rw [allP_succ]
    refine specAllGo R va vca ss s k _ (allP ss n) W hs hl (by omega) hrow h (fun k b V hV hr => ?_)
    have e : 13 - ((n + 1 : Nat) : Int) + 1 = 13 - (n : Int) := by omega
    rw [e]
    exact specAll R va vca ss s hs hl n (by omega) k b V hV hr
end Go.Proofs.YtplchhahjmoodaaGreatDoor
