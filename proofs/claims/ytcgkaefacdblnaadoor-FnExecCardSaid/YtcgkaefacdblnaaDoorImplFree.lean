/-
  The program's action that frees a cell.
-/
import Derived.Test.YtcgkaefacdblnaaDoorImplActs
import Derived.Test.YtcgkaefacdblnaaDoorLibRows
namespace Go.Proofs.YtcgkaefacdblnaaDoor
open Go Go.RowKit Go.ChangeShapes Go.WideShapes Go.ChangeAt

/-- A list whose first j elements are done. -/
def mixL (f : Int → Int) (l : List Int) (j : Nat) : List Int := (l.take j).map f ++ l.drop j
theorem mixL_length (f : Int → Int) (l : List Int) (j : Nat) : (mixL f l j).length = l.length := by simp [mixL]; omega
theorem mixL_zero (f : Int → Int) (l : List Int) : mixL f l 0 = l := by simp [mixL]
theorem mixL_all (f : Int → Int) (l : List Int) : mixL f l l.length = l.map f := by simp [mixL]
theorem mixL_at (f : Int → Int) (l : List Int) {j : Nat} (h : j < l.length) (h' : j < (mixL f l j).length) : (mixL f l j)[j] = l[j] := by
  simp only [mixL]
  rw [List.getElem_append_right (by simp; omega)]
  simp only [List.length_map, List.length_take, List.getElem_drop]
  congr 1
  omega
theorem mixL_next (f : Int → Int) (l : List Int) {j : Nat} (h : j < l.length) : (mixL f l j).set j (f l[j]) = mixL f l (j + 1) := by
  have e : (l.drop j) = l[j] :: l.drop (j + 1) := List.drop_eq_getElem_cons h
  simp only [mixL]
  rw [e, take_next l j h, List.map_append, List.append_assoc, List.set_append_right _ _ (by simp; omega)]
  simp only [List.length_map, List.length_take]
  rw [show j - min j l.length = 0 by omega]
  rfl
theorem mixL_same (f : Int → Int) (l : List Int) {j : Nat} (h : j < l.length) (hf : f l[j] = l[j]) : mixL f l (j + 1) = mixL f l j := by
  rw [← mixL_next f l h, hf]
  have := mixL_at f l h (by rw [mixL_length]; exact h)
  conv => lhs; rw [← this]
  exact List.set_getElem_self _

/-- The cells' row lost a cell. -/
theorem HeapIn.lessZ {lo hi q k : Nat} {W W' : World} {a : Option Addr} {ca cb : Nat} {vs zs : List Int} (h : HeapIn lo hi W a ca (some ⟨q, 0, none⟩) cb (intVals vs) (intVals zs)) (hk : k < zs.length)
    (ho : OwnIn lo hi W' 3 1 (.slice (some ⟨q, 0, none⟩) (zs.length - 1) cb) (zs.length - 1) (intVals (zs.eraseIdx k))) (t : Turn q (q + 1) W W') : HeapIn lo hi W' a ca (some ⟨q, 0, none⟩) cb (intVals vs) (intVals (zs.eraseIdx k)) := by
  have hl : (zs.eraseIdx k).length = zs.length - 1 := by rw [List.length_eraseIdx, if_pos hk]
  have hv := h.v
  have hap := h.apart
  rw [intVals_length, intVals_length] at hap
  rw [intVals_length] at hv
  have hg : W.grownBy W' (some q) := ⟨t.os, t.tape, t.output, t.size, fun j hj hne => t.block j hj (by have : j ≠ q := fun e => hne (by rw [e]); omega)⟩
  refine ⟨?_, ?_, ?_⟩
  · rw [intVals_length]
    exact ⟨Nat.le_trans hv.1 t.size, own_other hv.2.1 hg (fun j hj e => hap j hj (by rw [e]; rfl)), hv.2.2⟩
  · rw [intVals_length, hl]
    exact ho
  · rw [intVals_length, intVals_length, hl]
    exact hap

/-- What the walk of withoutCell keeps: the argument's box, the answer's box, the list of both rows, the heap. -/
structure Wo (w : World) (S : Nat → Prop) (lo hi L q ca cb n m : Nat) (a : Option Addr) (us ys : List Int) (W : World) : Prop where
  arg : BoxL W w.heap.size [.slice a n ca, .slice (some ⟨q, 0, none⟩) m cb]
  res : BoxL W (w.heap.size + 1) [.slice none 0 0, .slice none 0 0]
  two : BoxL W L [.slice a n ca, .slice (some ⟨q, 0, none⟩) m cb]
  heap : HeapIn lo hi W a ca (some ⟨q, 0, none⟩) cb (intVals us) (intVals ys)
  turn : TurnB lo hi S w W
  hn : us.length = n
  hm : ys.length = m
  hL : w.heap.size + 1 < L
  hhi : hi ≤ w.heap.size
theorem Wo.setV {w W : World} {S : Nat → Prop} {lo hi L q ca cb n m g k : Nat} {us ys : List Int} (x : Int) (h : Wo w S lo hi L q ca cb n m (some ⟨g, 0, none⟩) us ys W) (hg1 : lo ≤ g) (hg2 : g < hi) (hS : S g) : Wo w S lo hi L q ca cb n m (some ⟨g, 0, none⟩) (us.set k x) ys (W.setCell ⟨g, k, none⟩ (.int .i64 x)) := by
  have ts := turn_set W g k (.int .i64 x)
  have h1 := h.hL
  have h2 := h.hhi
  exact ⟨h.arg.turn ts (.inr (by omega)), h.res.turn ts (.inr (by omega)), h.two.turn ts (.inr (by omega)), h.heap.setV x, h.turn.trans (turnB_at _ hg1 hg2 hS), by rw [List.length_set]; exact h.hn, h.hm, h1, h2⟩
theorem Wo.setZ {w W : World} {S : Nat → Prop} {lo hi L q ca cb n m k : Nat} {a : Option Addr} {us ys : List Int} (x : Int) (h : Wo w S lo hi L q ca cb n m a us ys W) (hg1 : lo ≤ q) (hg2 : q < hi) (hS : S q) : Wo w S lo hi L q ca cb n m a us (ys.set k x) (W.setCell ⟨q, k, none⟩ (.int .i64 x)) := by
  have ts := turn_set W q k (.int .i64 x)
  have h1 := h.hL
  have h2 := h.hhi
  exact ⟨h.arg.turn ts (.inr (by omega)), h.res.turn ts (.inr (by omega)), h.two.turn ts (.inr (by omega)), h.heap.setZ x, h.turn.trans (turnB_at _ hg1 hg2 hS), h.hn, by rw [List.length_set]; exact h.hm, h1, h2⟩

def Without (lo hi : Nat) (S : Nat → Prop) (vs zs : List Int) (w : World) (e : Ending) (w' : World) : Prop :=
  ∃ a ca b cb, e = .returned (heV a vs.length ca b zs.length cb) ∧ HeapIn lo hi w' a ca b cb (intVals vs) (intVals zs) ∧ TurnB lo hi S w w' ∧ (∀ k, blocksH a b vs.length ca zs.length cb k → S k)
set_option maxRecDepth 100000 in
set_option maxHeartbeats 3200000 in
theorem implWithout {lo hi q c : Nat} {S : Nat → Prop} {a : Option Addr} {ca cb : Nat} {vs zs : List Int} {w : World} (h : HeapIn lo hi w a ca (some ⟨q, 0, none⟩) cb (intVals vs) (intVals zs)) (hq1 : lo ≤ q) (hq2 : q < hi) (hc : c < zs.length) (hv4 : vs.length ≤ 4) (hz6 : zs.length ≤ 6)
    (hbv : ∀ x ∈ vs, -1 ≤ x ∧ x ≤ 6) (hbz : ∀ x ∈ zs, -1 ≤ x ∧ x ≤ 6) (hSq : S q) (hSa : ∀ g, a = some ⟨g, 0, none⟩ → S g) (hSa' : ∀ p : Addr, a = some p → S p.block) :
    Calls Tryd.prog 96 #[heV a vs.length ca (some ⟨q, 0, none⟩) zs.length cb, .int .i64 c] w (Without lo hi S (vs.map (lowC c)) ((zs.eraseIdx c).map (lowC c)) w) := by
  have hhi := h.v.1
  have hl : (zs.eraseIdx c).length = zs.length - 1 := by rw [List.length_eraseIdx, if_pos hc]
  have hbe : ∀ x ∈ zs.eraseIdx c, -1 ≤ x ∧ x ≤ 6 := fun x hx => hbz x (List.mem_of_mem_eraseIdx hx)
  obtain ⟨W0, hW0, hb0, bn0, bp0⟩ := two_boxL w [.slice a vs.length ca, .slice (some ⟨q, 0, none⟩) zs.length cb] [.slice none 0 0, .slice none 0 0] 29 29
  replace hW0 : ((w.alloc (.cells #[.slice a vs.length ca, .slice (some ⟨q, 0, none⟩) zs.length cb] 29)).alloc (.cells #[.slice none 0 0, .slice none 0 0] 29)) = W0 := hW0
  have c0 := bn0.c 0 _ rfl
  have c1 := bn0.c 1 _ rfl
  have h0 := h.turn (lo' := hi) (hi' := hi) (Turn.of_below hb0) (.inl (Nat.le_refl _))
  have hz0 := h0.z
  rw [intVals_length] at hz0
  go_enter Tryd.func96, Tryd.ntmps96
  go_wp2_with fail
  clear hW0
  rw [show (c : Int) + 1 = ((c + 1 : Nat) : Int) by omega]
  refine (libDelete hc hz0).mono ?_
  rintro e w1 ⟨rfl, ho1, t1⟩
  have h1 := h0.lessZ hc ho1 t1
  have bn1 := bn0.turn t1 (.inr (by omega))
  have bp1 := bp0.turn t1 (.inr (by omega))
  have T1 := (TurnB.of_below hb0 (lo := lo) (hi := hi) (S := S)).trans (TurnB.of_one t1 hq1 (by omega) hSq)
  have e0 := bn1.c 0 _ rfl
  have e1 := bn1.c 1 _ rfl
  have ef := bn1.f
  have hs1 := bp1.lt
  clear c0 c1 h0 hz0 ho1 t1 bn0 bp0 hb0
  have HW1 : Wo w S lo hi w1.heap.size q ca cb vs.length (zs.length - 1) a vs (zs.eraseIdx c) ((w1.setCell ⟨w.heap.size, 1, none⟩ (.slice (some ⟨q, 0, none⟩) (zs.length - 1) cb)).alloc (.cells #[.slice a vs.length ca, .slice (some ⟨q, 0, none⟩) (zs.length - 1) cb] 27)) := by
    have hbl := h1.blocks
    have ts := turn_set w1 w.heap.size 1 (.slice (some ⟨q, 0, none⟩) (zs.length - 1) cb)
    have ha := bn1.set 1 (.slice (some ⟨q, 0, none⟩) (zs.length - 1) cb)
    have hr := bp1.turn ts (.inr (by omega))
    have hh : HeapIn lo hi (w1.setCell ⟨w.heap.size, 1, none⟩ (.slice (some ⟨q, 0, none⟩) (zs.length - 1) cb)) a ca (some ⟨q, 0, none⟩) cb (intVals vs) (intVals (zs.eraseIdx c)) := h1.setNot fun k hk => by have := hbl k hk; omega
    have hb := (Below.refl (w1.setCell ⟨w.heap.size, 1, none⟩ (.slice (some ⟨q, 0, none⟩) (zs.length - 1) cb)).heap.size (w1.setCell ⟨w.heap.size, 1, none⟩ (.slice (some ⟨q, 0, none⟩) (zs.length - 1) cb))).alloc (Nat.le_refl _) (.cells #[.slice a vs.length ca, .slice (some ⟨q, 0, none⟩) (zs.length - 1) cb] 27)
    have hnew := BoxL.new (w1.setCell ⟨w.heap.size, 1, none⟩ (.slice (some ⟨q, 0, none⟩) (zs.length - 1) cb)) [.slice a vs.length ca, .slice (some ⟨q, 0, none⟩) (zs.length - 1) cb] 27
    rw [show (w1.setCell ⟨w.heap.size, 1, none⟩ (.slice (some ⟨q, 0, none⟩) (zs.length - 1) cb)).heap.size = w1.heap.size by simp] at hnew
    exact ⟨ha.below hb, hr.below hb, hnew, hh.below hb, (T1.setNew (Nat.le_refl _)).trans (TurnB.of_below hb), rfl, hl, hs1, hhi⟩
  have HL := Lib.hid hl
  go_wp2
  clear e0 e1 ef bn1 bp1 h1 T1
  generalize ((w1.setCell ⟨w.heap.size, 1, none⟩ (.slice (some ⟨q, 0, none⟩) (zs.length - 1) cb)).alloc (.cells #[.slice a vs.length ca, .slice (some ⟨q, 0, none⟩) (zs.length - 1) cb] 27)) = W4 at *
  generalize w1.heap.size = L at *
  have hm5 : zs.length - 1 ≤ 5 := by omega
  generalize zs.length - 1 = m at *
  go_loopw [22] (fun i wr => ∃ (t : Nat) (us ys : List Int), t ≤ 2 ∧ i = .int .i64 t ∧ ((t = 0 ∧ us = vs ∧ ys = zs.eraseIdx c) ∨ (t = 1 ∧ us = vs.map (lowC c) ∧ ys = zs.eraseIdx c) ∨ (t = 2 ∧ us = vs.map (lowC c) ∧ ys = (zs.eraseIdx c).map (lowC c))) ∧ Wo w S lo hi L q ca cb vs.length m a us ys wr)
    (fun i _ => 2 - (intOf i).toNat)
  case atStart => exact ⟨0, _, _, by omega, rfl, .inl ⟨rfl, rfl, rfl⟩, HW1⟩
  case round =>
    clear HW1
    obtain ⟨t, us, ys, ht, rfl, hcase, hW⟩ := hrel
    have t0 := hW.two.c 0 _ rfl
    have t1 := hW.two.c 1 _ rfl
    rcases hcase with ⟨rfl, hu, hy⟩ | ⟨rfl, hu, hy⟩ | ⟨rfl, hu, hy⟩ <;> rw [hu, hy] at hW <;> clear hu hy us ys
    case' inl =>
      have VB := Lib.hid hbv
      go_wp2
      go_loopw [28] (fun j wr => ∃ (k : Nat), k ≤ vs.length ∧ j = .int .i64 k ∧ Wo w S lo hi L q ca cb vs.length m a (mixL (lowC c) vs k) (zs.eraseIdx c) wr) (fun j _ => vs.length - (intOf j).toNat)
      case atStart => exact ⟨0, Nat.zero_le _, rfl, by rw [mixL_zero]; exact hW⟩
      case round =>
        clear hW
        obtain ⟨k, hk, rfl, hW⟩ := hrel
        by_cases hlt : k < vs.length
        · obtain ⟨g, rfl, hg1, hg2⟩ := hW.heap.v.block_ (by rw [intVals_length, mixL_length]; omega)
          have hcell := hW.heap.v.cellInt k (by rw [mixL_length]; exact hlt)
          rw [mixL_at _ _ hlt] at hcell
          have hbx := VB.out _ (List.getElem_mem hlt)
          have hnx := mixL_next (lowC c) vs hlt
          have hsm := mixL_same (lowC c) vs hlt
          have hfr := hW.heap.v.frozen_ k
          generalize hx : vs[k]'hlt = x at *
          clear hx
          by_cases hgt : (c : Int) < x
          · have hlow : lowC c x = x - 1 := if_pos hgt
            rw [hlow] at hnx
            have hwr : IntKind.i64.wrap (x - 1) = x - 1 := by rw [IntKind.wrap_i64]; omega
            have hW' := hW.setV (k := k) (x - 1) hg1 hg2 (hSa g rfl)
            rw [hnx] at hW'
            have HW := Lib.hid hW'
            clear hW hW' hnx hsm hlow
            go_wp2
            go_roundw
            case rel => exact ⟨k + 1, by omega, by go_num, HW.out⟩
            case measure => simp [intOf]; omega
          · have hlow : lowC c x = x := if_neg hgt
            have hW' := hW
            rw [← hsm hlow] at hW'
            have HW := Lib.hid hW'
            clear hW hW' hnx hsm hlow
            go_wp2
            go_roundw
            case rel => exact ⟨k + 1, by omega, by go_num, HW.out⟩
            case measure => simp [intOf]; omega
        · have hke : k = vs.length := by omega
          have hall : mixL (lowC c) vs k = vs.map (lowC c) := by rw [hke, mixL_all]
          rw [hall] at hW
          clear hall
          have HW := Lib.hid hW
          clear hW
          go_wp2
          go_roundw
          case rel => exact ⟨1, _, _, by omega, by go_num, .inr (.inl ⟨rfl, rfl, rfl⟩), HW.out⟩
          case measure => simp [intOf]
    case' inr.inl =>
      have ZB := Lib.hid hbe
      go_wp2
      go_loopw [28] (fun j wr => ∃ (k : Nat), k ≤ m ∧ j = .int .i64 k ∧ Wo w S lo hi L q ca cb vs.length m a (vs.map (lowC c)) (mixL (lowC c) (zs.eraseIdx c) k) wr) (fun j _ => m - (intOf j).toNat)
      case atStart => exact ⟨0, Nat.zero_le _, rfl, by rw [mixL_zero]; exact hW⟩
      case round =>
        clear hW
        obtain ⟨k, hk, rfl, hW⟩ := hrel
        by_cases hlt : k < m
        · have hlt' : k < (zs.eraseIdx c).length := by rw [HL.out]; exact hlt
          have hcell := hW.heap.z.cellInt k (by rw [mixL_length]; exact hlt')
          rw [mixL_at _ _ hlt'] at hcell
          have hbx := ZB.out _ (List.getElem_mem hlt')
          have hnx := mixL_next (lowC c) (zs.eraseIdx c) hlt'
          have hsm := mixL_same (lowC c) (zs.eraseIdx c) hlt'
          have hfr := hW.heap.z.frozen_ k
          generalize hx : (zs.eraseIdx c)[k]'hlt' = x at *
          clear hx
          by_cases hgt : (c : Int) < x
          · have hlow : lowC c x = x - 1 := if_pos hgt
            rw [hlow] at hnx
            have hwr : IntKind.i64.wrap (x - 1) = x - 1 := by rw [IntKind.wrap_i64]; omega
            have hW' := hW.setZ (k := k) (x - 1) hq1 hq2 hSq
            rw [hnx] at hW'
            have HW := Lib.hid hW'
            clear hW hW' hnx hsm hlow
            go_wp2
            go_roundw
            case rel => exact ⟨k + 1, by omega, by go_num, HW.out⟩
            case measure => simp [intOf]; omega
          · have hlow : lowC c x = x := if_neg hgt
            have hW' := hW
            rw [← hsm hlow] at hW'
            have HW := Lib.hid hW'
            clear hW hW' hnx hsm hlow
            go_wp2
            go_roundw
            case rel => exact ⟨k + 1, by omega, by go_num, HW.out⟩
            case measure => simp [intOf]; omega
        · have hke : k = m := by omega
          have hall : mixL (lowC c) (zs.eraseIdx c) k = (zs.eraseIdx c).map (lowC c) := by rw [hke, ← HL.out, mixL_all]
          rw [hall] at hW
          clear hall
          have HW := Lib.hid hW
          clear hW
          go_wp2
          go_roundw
          case rel => exact ⟨2, _, _, by omega, by go_num, .inr (.inr ⟨rfl, rfl, rfl⟩), HW.out⟩
          case measure => simp [intOf]
    case' inr.inr =>
      have r0 := hW.res.c 0 _ rfl
      have r1 := hW.res.c 1 _ rfl
      have rf := hW.res.f
      have a0 := hW.arg.c 0 _ rfl
      have a1 := hW.arg.c 1 _ rfl
      have hn := hW.hn
      have hm := hW.hm
      have hX := heap_box (Q := w.heap.size + 1) (u := .slice a vs.length ca) (v := .slice (some ⟨q, 0, none⟩) m cb) hW.heap hW.turn hhi (by omega)
      have hbl := hW.heap.blocks
      have hX2 : HeapIn lo hi ((wr.setCell ⟨w.heap.size + 1, 0, none⟩ (.slice a vs.length ca)).setCell ⟨w.heap.size + 1, 1, none⟩ (.slice (some ⟨q, 0, none⟩) m cb)) a ca (some ⟨q, 0, none⟩) cb (intVals (vs.map (lowC c))) (intVals ((zs.eraseIdx c).map (lowC c))) :=
        (hW.heap.setNot (Q := w.heap.size + 1) fun k hk => by have := hbl k hk; omega).setNot (Q := w.heap.size + 1) fun k hk => by have := hbl k hk; omega
      have HX := Lib.hid (And.intro hX2 hX.2)
      clear hX hX2 hW hbl
      go_wp2
      refine bodyPost_ret (v := heV a vs.length ca (some ⟨q, 0, none⟩) m cb) (by simp [results, Tryd.results96, go_sem, r0, r1]) rfl ?_
      exact ⟨a, ca, some ⟨q, 0, none⟩, cb, by rw [hn, hm], HX.out.1, HX.out.2, fun k hk => hk.elim (fun e => by cases a with | none => cases e | some p0 => exact Option.some.inj e ▸ hSa' p0 rfl) (fun e => Option.some.inj e ▸ hSq)⟩

theorem free_null {pa : Nat} {vs zs : List Int} (hp : pa < vs.length) (h : vs[pa] = -1) : freeS pa vs zs = badC 2 := by
  unfold freeS
  rw [getD_cell hp, if_pos h]
theorem free_used {pa c : Nat} {vs zs : List Int} (hp : pa < vs.length) (h : vs[pa] = (c : Int)) (hm : (c : Int) ∈ vs.set pa (-1) ∨ (c : Int) ∈ zs) : freeS pa vs zs = badC 5 := by
  unfold freeS
  rw [getD_cell hp, h, if_neg (by omega), if_pos hm]
theorem free_ok {pa c : Nat} {vs zs : List Int} (hp : pa < vs.length) (h : vs[pa] = (c : Int)) (hm : ¬ ((c : Int) ∈ vs.set pa (-1) ∨ (c : Int) ∈ zs)) : freeS pa vs zs = (0, (vs.set pa (-1)).map (lowC c), (zs.eraseIdx c).map (lowC c)) := by
  unfold freeS
  rw [getD_cell hp, h, if_neg (by omega), if_neg hm, Int.toNat_natCast]

theorem good_range {zs l : List Int} (hz6 : zs.length ≤ 6) (h : goodB zs l = true) : ∀ x ∈ l, -1 ≤ x ∧ x ≤ 6 := fun x hx => by
  rcases goodB_at h hx with rfl | h
  · omega
  · have := isC_iff.1 h
    omega

set_option maxRecDepth 100000 in
set_option maxHeartbeats 1600000 in
theorem implDoFree {lo hi pa : Nat} {a b : Option Addr} {ca cb : Nat} {vs zs : List Int} (y : Int) {w : World} (h : HeapIn lo hi w a ca b cb (intVals vs) (intVals zs)) (hp : pa < vs.length) (hv4 : vs.length ≤ 4) (hz6 : zs.length ≤ 6) (hgv : goodB zs vs = true) (hgz : goodB zs zs = true) :
    Calls Tryd.prog 79 #[heV a vs.length ca b zs.length cb, .int .i64 pa, .int .i64 y] w (Acted lo hi (blocksH a b vs.length ca zs.length cb) (freeS pa vs zs) w) := by
  obtain ⟨g, rfl, hg1, hg2⟩ := h.v.block_ (by rw [intVals_length]; omega)
  have hhi := h.v.1
  have n0 : ¬ w.heap.size = g := by omega
  have n1 : ¬ w.heap.size + 1 = g := by omega
  have n2 : g < w.heap.size := by omega
  have n3 : g < w.heap.size + 1 := by omega
  have hsrc := h.v.cellInt pa hp
  by_cases hn : vs[pa] = -1
  · rw [free_null hp hn]
    rw [hn] at hsrc
    clear hn
    go_enter Tryd.func79, Tryd.ntmps79
    go_wp2
    refine bodyPost_ret (v := .tuple #[heV none 0 0 none 0 0, .int .i64 2]) (by simp [results, Tryd.results79, go_sem]) rfl ?_
    refine acted_bad (TurnB.of_below ?_)
    repeat (first | with_reducible exact Below.refl _ _ | refine Below.drew ?_ | refine Below.alloc ?_ (by simp <;> omega) _ | refine Below.setCell ?_ (by simp <;> omega) _)
  · obtain ⟨c, hc, hcl⟩ := var_cell hp hgv hn
    have hne : ((c : Int) == -1) = false := by simp only [beq_eq_false_iff_ne, ne_eq]; omega
    rw [hc] at hsrc
    have HC := Lib.hid hc
    clear hn hc
    have hfr := h.v.frozen_ pa
    obtain ⟨q, rfl, hq1, hq2⟩ := h.z.block_ (by rw [intVals_length]; omega)
    obtain ⟨W0, hW0, hb0, bn0, bp0⟩ := two_boxL (w.setCell ⟨g, pa, none⟩ (.int .i64 (-1))) [.slice (some ⟨g, 0, none⟩) vs.length ca, .slice (some ⟨q, 0, none⟩) zs.length cb] [.slice none 0 0, .slice none 0 0] 29 29
    replace hW0 : (((w.setCell ⟨g, pa, none⟩ (.int .i64 (-1))).alloc (.cells #[.slice (some ⟨g, 0, none⟩) vs.length ca, .slice (some ⟨q, 0, none⟩) zs.length cb] 29)).alloc (.cells #[.slice none 0 0, .slice none 0 0] 29)) = W0 := hW0
    rw [show (w.setCell ⟨g, pa, none⟩ (.int .i64 (-1))).heap.size = w.heap.size by simp] at bn0 bp0
    have h1 := h.setV (k := pa) (-1)
    have h0 := h1.below hb0
    have T0 := (turnB_at (S := (blocksH (some ⟨g, 0, none⟩) (some ⟨q, 0, none⟩) vs.length ca zs.length cb)) (k := pa) (w := w) (.int .i64 (-1)) hg1 hg2 (.inl rfl)).trans (TurnB.of_below hb0)
    have el : (vs.set pa (-1)).length = vs.length := List.length_set
    have k0 := bn0.c 0 _ rfl
    have k1 := bn0.c 1 _ rfl
    have r0 := bp0.c 0 _ rfl
    have r1 := bp0.c 1 _ rfl
    have rf := bp0.f
    have hs0 := bp0.lt
    obtain ⟨m1, hm1⟩ : ∃ m1, decide ((c : Int) ∈ vs.set pa (-1)) = m1 := ⟨_, rfl⟩
    obtain ⟨m2, hm2⟩ : ∃ m2, decide ((c : Int) ∈ zs) = m2 := ⟨_, rfl⟩
    have HM1 := Lib.hid hm1
    have HM2 := Lib.hid hm2
    have hgv' : goodB zs (vs.set pa (-1)) = true := by
      rw [goodB, List.all_eq_true]
      intro x hx
      rcases List.mem_or_eq_of_mem_set hx with hx | rfl
      · have := goodB_at hgv hx
        simpa using this
      · simp
    have hbv := good_range hz6 hgv'
    have hbz := good_range hz6 hgz
    clear hm1 hm2 h1 h hb0 bn0
    go_enter Tryd.func79, Tryd.ntmps79
    go_wp2_with fail
    clear hW0
    have hcv := libContains (some ⟨g, 0, none⟩) ca (vs.set pa (-1)) (c : Int) W0 (by unfold maxLen; omega) h0.rows.v
    rw [el, HM1.out] at hcv
    refine hcv.mono ?_
    rintro e w1 ⟨rfl, rfl⟩
    cases m1
    case' true =>
      have HR := Lib.hid (free_used (zs := zs) hp HC.out (.inl (of_decide_eq_true HM1.out)))
      go_wp2
      refine bodyPost_ret (v := .tuple #[heV none 0 0 none 0 0, .int .i64 5]) (by simp [results, Tryd.results79, go_sem, r0, r1]) rfl ?_
      rw [HR.out]
      refine acted_bad ?_
      repeat (first | with_reducible exact T0 | refine TurnB.setNew ?_ (by omega))
    case' false =>
      go_wp2_with fail
      refine (libContains (some ⟨q, 0, none⟩) cb zs (c : Int) _ (by unfold maxLen; omega) h0.rows.z).mono ?_
      rw [HM2.out]
      rintro e w2 ⟨rfl, rfl⟩
      cases m2
      case' true =>
        have HR := Lib.hid (free_used hp HC.out (.inr (of_decide_eq_true HM2.out)))
        go_wp2
        refine bodyPost_ret (v := .tuple #[heV none 0 0 none 0 0, .int .i64 5]) (by simp [results, Tryd.results79, go_sem, r0, r1]) rfl ?_
        rw [HR.out]
        refine acted_bad ?_
        repeat (first | with_reducible exact T0 | refine TurnB.setNew ?_ (by omega))
      case' false =>
        have HR := Lib.hid (free_ok hp HC.out (fun hh => hh.elim (of_decide_eq_false HM1.out) (of_decide_eq_false HM2.out)))
        go_wp2_with fail
        have hwo := implWithout (S := (blocksH (some ⟨g, 0, none⟩) (some ⟨q, 0, none⟩) vs.length ca zs.length cb)) h0 hq1 hq2 hcl (by omega) hz6 hbv hbz (.inr rfl) (fun g' e => by have e := Option.some.inj e; injection e with e; subst e; exact .inl rfl) (fun p e => by have e := Option.some.inj e; subst e; exact .inl rfl)
        rw [el] at hwo
        refine hwo.mono ?_
        rintro e w3 ⟨xa, xca, xb, xcb, rfl, h3, t3, hb3⟩
        have bp3 := bp0.turn t3.t (.inr (by omega))
        have q0 := bp3.c 0 _ rfl
        have q1 := bp3.c 1 _ rfl
        have qf := bp3.f
        have hX := heap_box (Q := w.heap.size + 1) (u := .slice xa ((vs.set pa (-1)).map (lowC c)).length xca) (v := .slice xb ((zs.eraseIdx c).map (lowC c)).length xcb) h3 (T0.trans t3) hhi (by omega)
        have HX := Lib.hid hX
        clear hX h3 hwo hcv r0 r1 rf k0 k1 bp0 bp3 h0
        generalize hvv : (vs.set pa (-1)).map (lowC c) = us at *
        generalize hzz : (zs.eraseIdx c).map (lowC c) = ys at *
        clear hvv hzz
        go_wp2
        refine bodyPost_ret (v := .tuple #[heV xa us.length xca xb ys.length xcb, .int .i64 0]) (by simp [results, Tryd.results79, go_sem, q0, q1]) rfl ?_
        rw [HR.out]
        exact acted_of rfl rfl HX.out.1 HX.out.2 (fun k hk => .inl (hb3 k (blocksH_any hk)))
end Go.Proofs.YtcgkaefacdblnaaDoor
