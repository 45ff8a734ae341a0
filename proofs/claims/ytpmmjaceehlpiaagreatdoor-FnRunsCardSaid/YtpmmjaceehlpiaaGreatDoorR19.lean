/-
  Several texts of one proof in one file, in the order in which they build.
-/
import Derived.Maps.AppendAt
import Derived.Deep.RegionLaw
import Derived.Test.YtpmmjaceehlpiaaGreatDoorR18
import Derived.Test.YtpmmjaceehlpiaaGreatDoorR06
import Derived.Test.YtpmmjaceehlpiaaGreatDoorR08
import Derived.Test.YtpmmjaceehlpiaaGreatDoorR12
/-
  The model compares two states, and adds a state to a list.
-/
namespace Go.Proofs.YtpmmjaceehlpiaaGreatDoor
open Go Go.RowKit Go.ChangeShapes Go.WideShapes Go.ChangeAt

def sameSp (p q : Int) (vs zs us ys : List Int) : Bool := decide (p = q) && sameH vs zs us ys
theorem sameSp_iff {p q : Int} {vs zs us ys : List Int} : sameSp p q vs zs us ys = true ↔ p = q ∧ vs = us ∧ zs = ys := by simp [sameSp, sameH]
set_option maxHeartbeats 800000 in
theorem specEqualState (p q : Int) (a b c d : Option Addr) (ca cb cc cd : Nat) (vs zs us ys : List Int) (w : World) (hn : vs.length ≤ maxLen) (hm : zs.length ≤ maxLen) (h : HeapAt w a b vs zs) (h' : HeapAt w c d us ys) :
    Calls Tryz.prog 20 #[spC p a vs.length ca b zs.length cb, spC q c us.length cc d ys.length cd] w (GaveX (.bool (sameSp p q vs zs us ys)) w) := by
  have hb0 : ∀ u v t t', Below w.heap.size w ((w.alloc (.cells u t)).alloc (.cells v t')) := fun u v t t' => ((Below.refl _ _).alloc (Nat.le_refl _) _).alloc (by simp) _
  by_cases hpq : p = q
  · subst hpq
    have hs : sameSp p p vs zs us ys = sameH vs zs us ys := by simp [sameSp]
    rw [hs]
    obtain ⟨bb, hbb⟩ : ∃ bb, sameH vs zs us ys = bb := ⟨_, rfl⟩
    rw [hbb]
    have HBB := Lib.hid hbb
    clear hs hbb
    go_enter Tryz.func20, Tryz.ntmps20
    go_wp2_with fail
    refine (specEqualHeap a b c d ca cb cc cd vs zs us ys _ hn hm (h.below (hb0 _ _ _ _) (Nat.le_refl _)) (h'.below (hb0 _ _ _ _) (Nat.le_refl _))).mono ?_
    rw [HBB.out]
    rintro e w1 ⟨rfl, hb1⟩
    have hB := (hb0 _ _ _ _).trans (hb1.mono (hb0 _ _ _ _).size)
    have HE := Lib.hid hB
    clear hb1 hB
    go_wp2
    go_ret
    exact ⟨rfl, HE.out⟩
  · have hs : sameSp p q vs zs us ys = false := by simp [sameSp, hpq]
    rw [hs]
    have hne : (p == q) = false := by simpa using hpq
    have HE := Lib.hid hb0
    clear hs hpq hb0
    go_enter Tryz.func20, Tryz.ntmps20
    go_wp2
    go_ret
    exact ⟨rfl, HE.out _ _ _ _⟩
end Go.Proofs.YtpmmjaceehlpiaaGreatDoor
/-
  The law writes marks into a state, into the states of a row, and looks later whether they are still there.
-/
namespace Go.Proofs.YtpmmjaceehlpiaaGreatDoor
open Go Go.RowKit

set_option maxHeartbeats 800000 in
/-- Marks laid into a state's heap. -/
theorem markState (lo hi k : Nat) (p : Int) (a b : Option Addr) (ca cb n m : Nat) (xs ys : List Value) (w : World) (hxl : xs.length = n) (hyl : ys.length = m) (hn : n ≤ 54975581388) (hm : m ≤ 54975581388) (hk : k ≤ 54975581388) (h : HeapIn lo hi w a ca b cb xs ys) :
    Calls Tryz.prog 34 #[spC p a n ca b m cb, .int .i64 k] w (MarkedHeap lo hi k n m a b ca cb w) := by
  have hhi := h.v.1
  go_enter Tryz.func34, Tryz.ntmps34
  go_wp2_with fail
  have hb0 : ∀ u t, Below w.heap.size w (w.alloc (.cells u t)) := fun u t => (Below.refl _ _).alloc (Nat.le_refl _) _
  refine (markHeap lo hi k n m a b ca cb xs ys _ hxl hyl hn hm hk (h.below (hb0 _ _))).mono ?_
  rintro e w1 ⟨rfl, hin, ht⟩
  have hT := (Turn.of_below (lo := lo) (hi := hi) (hb0 _ _)).trans ht
  have HF := Lib.hid (And.intro hin hT)
  clear hin ht hT
  go_wp2
  go_ret
  exact ⟨rfl, HF.out.1, HF.out.2⟩

set_option maxHeartbeats 800000 in
theorem heldState (k : Nat) (p : Int) (n m : Nat) (a b : Option Addr) (ca cb : Nat) (w : World) (hn : n ≤ 54975581388) (hm : m ≤ 54975581388) (hk : k ≤ 54975581388) (h : HeapAt w a b (numsFrom k n) (numsFrom (k + n) m)) :
    Calls Tryz.prog 35 #[spC p a n ca b m cb, .int .i64 k] w (GaveX (.int .i64 ((k + n + m : Nat) : Int)) w) := by
  go_enter Tryz.func35, Tryz.ntmps35
  go_wp2_with fail
  have hb0 : ∀ u t, Below w.heap.size w (w.alloc (.cells u t)) := fun u t => (Below.refl _ _).alloc (Nat.le_refl _) _
  refine (heldHeap k n m a b ca cb _ hn hm hk (h.below (hb0 _ _) (Nat.le_refl _))).mono ?_
  rintro e w1 ⟨rfl, hb1⟩
  have HB := Lib.hid ((hb0 _ _).trans (hb1.mono (hb0 _ _).size))
  have q0 : ¬ ((k + n + m : Nat) : Int) < 0 := by omega
  clear hb1
  go_wp2
  go_ret
  exact ⟨rfl, HB.out⟩

/-- A state that bears the marks from k on. -/
def markSp (k : Nat) (x : Sp) : Sp := ⟨(k : Int), markHp (k + 1) x.h⟩
def spSize (x : Sp) : Nat := 1 + hpSize x.h
def spTotal (ss : List Sp) : Nat := (ss.map spSize).sum
theorem spTotal_next (ss : List Sp) (k : Nat) (h : k < ss.length) : spTotal (ss.take (k + 1)) = spTotal (ss.take k) + spSize ss[k] := by
  unfold spTotal
  rw [take_next ss k h, List.map_append, List.sum_append, List.map_cons, List.map_nil, List.sum_cons, List.sum_nil, Nat.add_zero]
theorem spTotal_take : ∀ (ss : List Sp) (k : Nat), spTotal (ss.take k) ≤ spTotal ss
  | [], k => by simp [spTotal]
  | x :: ss, 0 => by simp [spTotal]
  | x :: ss, k + 1 => by
    have := spTotal_take ss k
    simp only [spTotal, List.take_succ_cons, List.map_cons, List.sum_cons] at *
    omega
theorem spTotal_cons (x : Sp) (ss : List Sp) : spTotal (x :: ss) = spSize x + spTotal ss := by simp [spTotal]
def markSps (k : Nat) : List Sp → List Sp
  | [] => []
  | x :: ss => markSp k x :: markSps (k + spSize x) ss
theorem markSps_length : ∀ (k : Nat) (ss : List Sp), (markSps k ss).length = ss.length
  | _, [] => rfl
  | k, x :: ss => by simp [markSps, markSps_length]
theorem markSps_snoc : ∀ (k : Nat) (ss : List Sp) (x : Sp), markSps k (ss ++ [x]) = markSps k ss ++ [markSp (k + spTotal ss) x]
  | k, [], x => by simp [markSps, spTotal]
  | k, y :: ss, x => by
    show markSp k y :: markSps (k + spSize y) (ss ++ [x]) = markSp k y :: (markSps (k + spSize y) ss ++ _)
    rw [markSps_snoc, spTotal_cons, Nat.add_assoc]
theorem markSp_at (k : Nat) : ∀ (ss : List Sp) (j : Nat) (h : j < ss.length), (markSps k ss)[j]'(by rw [markSps_length]; exact h) = markSp (k + spTotal (ss.take j)) ss[j]
  | x :: ss, 0, _ => by simp [markSps, spTotal]
  | x :: ss, j + 1, h => by
    have h' : j < ss.length := by simpa using h
    have := markSp_at (k + spSize x) ss j h'
    simp only [markSps, List.getElem_cons_succ, List.take_succ_cons]
    rw [this, spTotal_cons, Nat.add_assoc]
def curS (k : Nat) (ss : List Sp) (j : Nat) : List Sp := markSps k (ss.take j) ++ ss.drop j
theorem curS_zero (k : Nat) (ss : List Sp) : curS k ss 0 = ss := by simp [curS, markSps]
theorem curS_full (k : Nat) (ss : List Sp) : curS k ss ss.length = markSps k ss := by simp [curS]
theorem curS_length (k : Nat) (ss : List Sp) {j : Nat} (h : j ≤ ss.length) : (curS k ss j).length = ss.length := by simp [curS, markSps_length]; omega
theorem curS_at (k : Nat) (ss : List Sp) {j : Nat} (h : j < ss.length) : (curS k ss j)[j]'(by rw [curS_length k ss (by omega)]; exact h) = ss[j] := by
  have hl : (markSps k (ss.take j)).length = j := by rw [markSps_length]; simp; omega
  simp only [curS]
  rw [List.getElem_append_right (by omega)]
  simp [hl]
theorem curS_next (k : Nat) (ss : List Sp) {j : Nat} (h : j < ss.length) : curS k ss (j + 1) = (curS k ss j).set j (markSp (k + spTotal (ss.take j)) ss[j]) := by
  have hl : (markSps k (ss.take j)).length = j := by rw [markSps_length]; simp; omega
  unfold curS
  rw [take_next ss j h, markSps_snoc, List.drop_eq_getElem_cons h, List.set_append_right _ _ (by omega), hl, Nat.sub_self, List.set_cons_zero, List.append_assoc]
  rfl
theorem markSps_has : ∀ (k : Nat) (ss : List Sp) (x : Sp), x ∈ markSps k ss → ∃ y ∈ ss, ∀ i, x.h.has i → y.h.has i
  | _, [], x, hx => by simp [markSps] at hx
  | k, y :: ss, x, hx => by
    rcases List.mem_cons.1 hx with rfl | hx
    · exact ⟨y, List.mem_cons_self, fun i hi => has_mark.1 hi⟩
    · obtain ⟨z, hz, h⟩ := markSps_has _ ss x hx
      exact ⟨z, List.mem_cons_of_mem _ hz, h⟩
theorem curS_has {k : Nat} {ss : List Sp} {j i : Nat} (h : hasAny ((curS k ss j).map Sp.h) i) : hasAny (ss.map Sp.h) i := by
  obtain ⟨y, hy, hi⟩ := h
  obtain ⟨x, hx, rfl⟩ := List.mem_map.1 hy
  rcases List.mem_append.1 hx with hx | hx
  · obtain ⟨z, hz, hh⟩ := markSps_has _ _ _ hx
    exact ⟨z.h, List.mem_map_of_mem (List.mem_of_mem_take hz), hh i hi⟩
  · exact ⟨x.h, List.mem_map_of_mem (List.mem_of_mem_drop hx), hi⟩
/-- The first cell of an element is written. -/
theorem fl_set {α : Type} {c : α → List Value} {s : Nat} (hc : ∀ x, (c x).length = s) {xs : List α} {j : Nat} (hj : j < xs.length) (hs : 0 < s) (y : α) (v : Value) (hy : c y = (c xs[j]).set 0 v) : (fl c xs).set (j * s) v = fl c (xs.set j y) := by
  apply List.ext_getElem?
  intro i
  have hlen : (fl c xs).length = xs.length * s := fl_length hc xs
  have hlen2 : (fl c (xs.set j y)).length = xs.length * s := by rw [fl_length hc, List.length_set]
  rcases Nat.lt_or_ge i (xs.length * s) with hi | hi
  · have hq : i / s < xs.length := Nat.div_lt_of_lt_mul (by rw [Nat.mul_comm]; exact hi)
    have hm : i % s < s := Nat.mod_lt _ hs
    have he : i / s * s + i % s = i := Nat.div_add_mod' i s
    have h2 := fl_at hc (xs.set j y) (i / s) (by rw [List.length_set]; exact hq) (i % s) hm
    have h1 := fl_at hc xs (i / s) hq (i % s) hm
    rw [he] at h1 h2
    rw [h2, List.getElem?_set, List.getElem_set]
    by_cases hji : j = i / s
    · subst hji
      rw [if_pos rfl, hy, List.getElem?_set]
      by_cases h0 : i % s = 0
      · have hi0 : i / s * s = i := by omega
        rw [if_pos hi0, if_pos h0.symm, if_pos (by rw [hi0, hlen]; exact hi), if_pos (by rw [hc]; exact hs)]
      · rw [if_neg (by omega), if_neg (fun e => h0 e.symm)]
        exact h1
    · rw [if_neg hji]
      have hne : ¬ j * s = i := by
        intro e
        apply hji
        rw [← e, Nat.mul_div_cancel _ hs]
      rw [if_neg hne]
      exact h1
  · rw [List.getElem?_eq_none (by rw [List.length_set, hlen]; exact hi), List.getElem?_eq_none (by rw [hlen2]; exact hi)]

/-- The blocks of a row of states: its own, and those of its heaps. -/
def allOf (a : Option Addr) (n cap : Nat) (ss : List Sp) (k : Nat) : Prop := (Value.slice a n cap).ownBlock = some k ∨ hasAny (ss.map Sp.h) k
theorem spCells_mark (k : Nat) (x : Sp) : spCells (markSp k x) = (spCells x).set 0 (.int .i64 (k : Int)) := by simp [spCells, markSp, markHp, numsFrom_length]
/-- Marks laid into a row of states. -/
def MarkedStates (lo k : Nat) (a : Option Addr) (cap : Nat) (ss : List Sp) (w : World) (e : Ending) (w' : World) : Prop :=
  e = .returned (.int .i64 ((k + spTotal ss : Nat) : Int)) ∧ w'.ownsRow lo 34 3 (.slice a ss.length cap) ss.length (spVals (markSps k ss)) ∧ HeapsIn lo w' ((markSps k ss).map Sp.h) ∧ Only (allOf a ss.length cap ss) w w'
set_option maxHeartbeats 1600000 in
theorem markStateRows (lo k : Nat) (a : Option Addr) (cap : Nat) (ss : List Sp) (w : World) (hn : ss.length ≤ 1099511627776) (hk : k + spTotal ss ≤ 54975581388) (hown : w.ownsRow lo 34 3 (.slice a ss.length cap) ss.length (spVals ss)) (hoff : ∀ g, (Value.slice a ss.length cap).ownBlock = some g → ¬ hasAny (ss.map Sp.h) g) (h : HeapsIn lo w (ss.map Sp.h)) :
    Calls Tryz.prog 41 #[.slice a ss.length cap, .int .i64 k] w (MarkedStates lo k a cap ss w) := by
  go_enter Tryz.func41, Tryz.ntmps41
  go_wp2
  go_loopw [1, 5] (fun m i wr => ∃ j : Nat, j ≤ ss.length ∧ i = .int .i64 j ∧ m = .int .i64 ((k + spTotal (ss.take j) : Nat) : Int) ∧ wr.ownsRow lo 34 3 (.slice a ss.length cap) ss.length (spVals (curS k ss j)) ∧ HeapsIn lo wr ((curS k ss j).map Sp.h) ∧ Only (allOf a ss.length cap ss) w wr) (fun _ i _ => ss.length - (intOf i).toNat)
  case atStart => exact ⟨0, Nat.zero_le _, rfl, by simp [spTotal], by rw [curS_zero]; exact hown, by rw [curS_zero]; exact h, Only.refl⟩
  case round =>
    obtain ⟨j, hj, rfl, rfl, ho, hin, ht⟩ := hrel
    by_cases hlt : j < ss.length
    · obtain ⟨g, rfl⟩ : ∃ g, a = some ⟨g, 0, none⟩ := by
        rcases ho.2 with ⟨_, h0⟩ | ⟨g, _, _, hv, _⟩
        · omega
        · injection hv with hv _ _
          exact ⟨g, hv⟩
      have hnb := hoff g rfl
      have hlc : j < (curS k ss j).length := by rw [curS_length k ss (by omega)]; exact hlt
      have hlh : j < ((curS k ss j).map Sp.h).length := by rw [List.length_map]; exact hlc
      have hcur := curS_at k ss hlt
      have hmem : ss[j].h ∈ ss.map Sp.h := List.mem_map_of_mem (List.getElem_mem hlt)
      have hx := hin.each _ (List.getElem_mem hlh)
      rw [List.getElem_map, hcur] at hx
      have htot := spTotal_next ss j hlt
      have hle : spTotal (ss.take (j + 1)) ≤ spTotal ss := spTotal_take ss (j + 1)
      have hset := curS_next k ss hlt
      have hS : ∀ i, ss[j].h.has i → allOf (some ⟨g, 0, none⟩) ss.length cap ss i := fun i hi => .inr ⟨_, hmem, hi⟩
      have hxb : ¬ ss[j].h.has g := fun hb => hnb ⟨_, hmem, hb⟩
      have hcells := fun i (hi : i < 3) => (fl_at spCells_length (curS k ss j) j hlc i hi)
      rw [hcur] at hcells
      obtain ⟨old0, v0⟩ : ∃ old, wr.cell? ⟨g, j * 3, none⟩ = some old := ⟨_, (ho.cellAt (j * 3) (by omega)).trans (hcells 0 (by omega))⟩
      have hf0 := ho.frozenAt (j * 3)
      have hgw : g < wr.heap.size := (ho.lt g rfl).2
      have hstore := (ho.stored (j * 3) (.int .i64 ((k : Int) + (spTotal (ss.take j) : Int)))).1
      rw [fl_set spCells_length hlc (by omega) (markSp (k + spTotal (ss.take j)) ss[j]) _ (by rw [hcur, show (k : Int) + (spTotal (ss.take j) : Int) = ((k + spTotal (ss.take j) : Nat) : Int) by omega]; exact spCells_mark _ _)] at hstore
      have hlc1 : j < ((curS k ss j).set j (markSp (k + spTotal (ss.take j)) ss[j])).length := by rw [List.length_set]; exact hlc
      have hcells1 := fun i (hi : i < 3) => (fl_at spCells_length ((curS k ss j).set j (markSp (k + spTotal (ss.take j)) ss[j])) j hlc1 i hi)
      rw [List.getElem_set_self] at hcells1
      have v1 := (hstore.cellAt (j * 3 + 1) (by omega)).trans (hcells1 1 (by omega))
      have v2 := (hstore.cellAt (j * 3 + 2) (by omega)).trans (hcells1 2 (by omega))
      simp only [spCells, markSp, markHp, numsFrom_length, List.getElem?_cons_succ, List.getElem?_cons_zero] at v1 v2
      rw [← hset] at hstore
      have hin1 : HeapsIn lo (wr.setCell ⟨g, j * 3, none⟩ (.int .i64 ((k : Int) + (spTotal (ss.take j) : Int)))) ((curS k ss j).map Sp.h) :=
        hin.same (by simp) fun x hx i hi => Below.heap_setCell _ _ _ _ (by show i ≠ g; exact fun e => hnb (curS_has ⟨x, hx, e ▸ hi⟩))
      have ht1 : Only (allOf (some ⟨g, 0, none⟩) ss.length cap ss) w (wr.setCell ⟨g, j * 3, none⟩ (.int .i64 ((k : Int) + (spTotal (ss.take j) : Int)))) := ht.trans (Only.set (.inl rfl))
      have hg1 : g < (wr.setCell ⟨g, j * 3, none⟩ (.int .i64 ((k : Int) + (spTotal (ss.take j) : Int)))).heap.size := by simpa using hgw
      have hx := hin1.each _ (List.getElem_mem hlh)
      rw [List.getElem_map, hcur] at hx
      have hm : spSize ss[j] = 1 + (ss[j].h.vs.length + ss[j].h.zs.length) := rfl
      have HST := Lib.hid (show ∀ W1, HeapsIn lo W1 ((curS k ss j).map Sp.h) → ∀ W2, W1.heap.size ≤ W2.heap.size → (markHp (k + spTotal (ss.take j) + 1) ss[j].h).In lo W2.heap.size W2 → (∀ i, i < W1.heap.size → ¬ ss[j].h.has i → W2.heap[i]? = W1.heap[i]?) → HeapsIn lo W2 ((curS k ss (j + 1)).map Sp.h) by
        intro W1 h1 W2 hz hy hb
        rw [hset, List.map_set]
        exact h1.set hlh hz (by rw [List.getElem_map, hcur]; exact hb) hy (fun i hi => by rw [List.getElem_map, hcur]; exact has_mark.1 hi))
      generalize ss[j] = x at *
      generalize spTotal (ss.take j) = T at *
      have HO := Lib.hid hstore
      have HIN := Lib.hid hin1
      have HT1 := Lib.hid ht1
      have HX := Lib.hid hx
      have HTOT := Lib.hid htot
      have hkm : k + T + 1 + x.h.vs.length + x.h.zs.length ≤ 54975581388 := by omega
      have hxv := hx.v.2.1
      have hxz := hx.z.2.1
      rw [intVals_length] at hxv hxz
      have hap := hx.apart
      rw [intVals_length, intVals_length] at hap
      have HG := Lib.hid hg1
      clear hcells hcells1 hcur hlc1 hset hlh hlc hin hin1 ho hstore ht1 ht hx htot hg1
      go_wp2_with fail
      have ek0 : (k : Int) + (T : Int) + 1 = ((k + T + 1 : Nat) : Int) := by omega
      try rw [ek0]
      refine (markInts lo (k + T + 1) x.h.vs.length x.h.a x.h.ca _ _ (by omega) (by omega) hxv).mono ?_
      rintro e w1 ⟨rfl, ho1, hg1⟩
      have hz1 := own_other hxz hg1 fun i hi e => hap i e.symm hi
      have hO1 := own_other HO.out hg1 fun i hi e => by cases hi; exact hxb (.inl e.symm)
      have d2 : w1.cell? ⟨g, j * 3 + 2, none⟩ = some (.slice x.h.b x.h.zs.length x.h.cb) := (World.cell?_of_block (hg1.block g HG.out fun e => hxb (.inl e.symm))).trans v2
      clear v1 v2 ek0
      go_wp2_with fail
      have ek1 : (k : Int) + (T : Int) + 1 + (x.h.vs.length : Int) = ((k + T + 1 + x.h.vs.length : Nat) : Int) := by omega
      try rw [ek1]
      refine (markInts lo (k + T + 1 + x.h.vs.length) x.h.zs.length x.h.b x.h.cb _ _ (by omega) (by omega) hz1).mono ?_
      rintro e w2 ⟨rfl, ho2, hg2⟩
      obtain ⟨hy, ht2, hb2⟩ := marked_in HX.out hS ho1 hg1 ho2 hg2
      have HF := Lib.hid (And.intro (own_other hO1 hg2 fun i hi e => by cases hi; exact hxb (.inr e.symm)) (And.intro (HST.out _ HIN.out _ (Nat.le_trans hg1.size hg2.size) hy hb2) (HT1.out.trans ht2)))
      have hkT : ((k + T + 1 + x.h.vs.length + x.h.zs.length : Nat) : Int) = ((k + spTotal (ss.take (j + 1)) : Nat) : Int) := by rw [HTOT.out, hm]; omega
      rw [hkT]
      clear ek1 hkT hy ht2 hb2 ho1 ho2 hg1 hg2 hz1 hO1 hxv hxz hap d2 hkm
      go_wp2
      go_roundw
      case rel => exact ⟨j + 1, by omega, by go_num, rfl, HF.out.1, HF.out.2.1, HF.out.2.2⟩
      case measure => simp [intOf]; omega
    · have hj' : j = ss.length := by omega
      subst hj'
      rw [List.take_length] at *
      rw [curS_full] at hin ho
      have HE := Lib.hid (show MarkedStates lo k a cap ss w (.returned (.int .i64 ((k + spTotal ss : Nat) : Int))) wr from ⟨rfl, ho, hin, ht⟩)
      clear hin ht ho
      go_wp2
      go_ret
      exact HE.out

set_option maxHeartbeats 800000 in
theorem heldStateRows (k : Nat) (a : Option Addr) (cap : Nat) (ss : List Sp) (w : World) (hn : ss.length ≤ 1099511627776) (hk : k + spTotal ss ≤ 54975581388) (hrow : StatesAt w a (markSps k ss)) :
    Calls Tryz.prog 42 #[.slice a ss.length cap, .int .i64 k] w (GaveX (.int .i64 ((k + spTotal ss : Nat) : Int)) w) := by
  go_enter Tryz.func42, Tryz.ntmps42
  go_wp2
  go_loopw [1, 5] (fun m i wr => ∃ j : Nat, j ≤ ss.length ∧ i = .int .i64 j ∧ m = .int .i64 ((k + spTotal (ss.take j) : Nat) : Int) ∧ wr = w) (fun _ i _ => ss.length - (intOf i).toNat)
  case atStart => exact ⟨0, Nat.zero_le _, rfl, by simp [spTotal], rfl⟩
  case round =>
    obtain ⟨j, hj, rfl, rfl, rfl⟩ := hrel
    by_cases hlt : j < ss.length
    · obtain ⟨b, o, rfl, hbW, c0, c1, c2, hat⟩ := hrow.item j (by rw [markSps_length]; exact hlt)
      rw [markSp_at k ss j hlt] at c0 c1 c2 hat
      have htot := spTotal_next ss j hlt
      have hle : spTotal (ss.take (j + 1)) ≤ spTotal ss := spTotal_take ss (j + 1)
      have hm : spSize ss[j] = 1 + (ss[j].h.vs.length + ss[j].h.zs.length) := rfl
      generalize ss[j] = x at *
      generalize spTotal (ss.take j) = T at *
      simp only [markSp, markHp, numsFrom_length] at c0 c1 c2
      have hav := hat.v
      have haz := hat.z
      simp only [markSp, markHp] at hav haz
      have hkm : k + T + 1 + x.h.vs.length + x.h.zs.length ≤ 54975581388 := by omega
      have hne : (((k + T : Nat) : Int) != (k : Int) + (T : Int)) = false := by simp
      have HTOT := Lib.hid htot
      clear hat htot
      go_wp2_with fail
      have ek0 : (k : Int) + (T : Int) + 1 = ((k + T + 1 : Nat) : Int) := by omega
      try rw [ek0]
      clear ek0
      refine (heldInts (k + T + 1) x.h.vs.length x.h.a x.h.ca _ (by omega) (by omega) hav).mono ?_
      rintro e w1 ⟨rfl, rfl⟩
      have q0 : ¬ ((k + T + 1 + x.h.vs.length : Nat) : Int) < 0 := by omega
      go_wp2_with fail
      refine (heldInts (k + T + 1 + x.h.vs.length) x.h.zs.length x.h.b x.h.cb _ (by omega) (by omega) haz).mono ?_
      rintro e w1 ⟨rfl, rfl⟩
      have hkT : ((k + T + 1 + x.h.vs.length + x.h.zs.length : Nat) : Int) = ((k + spTotal (ss.take (j + 1)) : Nat) : Int) := by rw [HTOT.out, hm]; omega
      rw [hkT]
      have q1 : ¬ ((k + spTotal (ss.take (j + 1)) : Nat) : Int) < 0 := by omega
      clear c0 c1 c2 hav haz hkT hne
      go_wp2
      go_roundw
      case rel => exact ⟨j + 1, by omega, by go_num, by first | rfl | trivial, by first | rfl | trivial⟩
      case measure => simp [intOf]; omega
    · have hj' : j = ss.length := by omega
      subst hj'
      rw [List.take_length] at *
      go_wp2
      go_ret
      exact ⟨rfl, Below.refl _ _⟩
end Go.Proofs.YtpmmjaceehlpiaaGreatDoor
/-
  The model adds a state to a list that does not have it.
-/
namespace Go.Proofs.YtpmmjaceehlpiaaGreatDoor
open Go Go.RowKit Go.ChangeShapes Go.WideShapes Go.ChangeAt

theorem stateInfo : (Tryz.prog.info? 34).map (fun i => (i.zero, i.size, i.bytes)) = some (some (.agg #[.int .i64 0, .slice none 0 0, .slice none 0 0]), 3, 56) := by kernel_rfl
theorem own_rows {W : World} {base e size n c g : Nat} {xs : List Value} (h : W.ownsRow base e size (.slice (some ⟨g, 0, none⟩) n c) n xs) : Row W W.heap.size (some ⟨g, 0, none⟩) xs := fun k u hu =>
  ⟨g, 0, rfl, (h.lt g rfl).2, by have := h.cells (g := g) rfl k u hu; rwa [add_plain] at this⟩
theorem lit3_news (w : World) (u v x : Value) (t : TypeId) : ∀ j y, [u, v, x][j]? = some y → (w.alloc (.cells #[u, v, x] t)).cell? ((⟨w.heap.size, 0, none⟩ : Addr).add j) = some y := by
  intro j y hj
  have := (BoxL.new w [u, v, x] t).c j y hj
  rw [add_plain, Nat.zero_add]
  exact this
theorem lit3_one (p : Int) (a : Option Addr) (n c : Nat) (b : Option Addr) (m d : Nat) : ∀ u ∈ [Value.int .i64 p, Value.slice a n c, Value.slice b m d], u.oneCell' = true := by
  intro u hu
  simp only [List.mem_cons, List.not_mem_nil, or_false] at hu
  rcases hu with rfl | rfl | rfl <;> rfl

/-- A list of states that is being made: its row, its heaps. -/
structure OutS (base : Nat) (bs : List Sb) (v : Value) (wr : World) (ss : List Sp) (kb : Nat) : Prop where
  body : ss.map Sp.body = bs
  own : wr.ownsRow base 34 3 v ss.length (spVals ss)
  ins : HeapsIn base wr (ss.map Sp.h)
  off : ¬ hasAny (ss.map Sp.h) kb
  blk : v.ownBlock = some kb
section
variable {base kb : Nat} {bs : List Sb} {v : Value} {wr wr' : World} {ss : List Sp}
theorem OutS.below (h : OutS base bs v wr ss kb) (hb : Below wr.heap.size wr wr') : OutS base bs v wr' ss kb := ⟨h.body, own_keeps h.own hb, h.ins.below hb, h.off, h.blk⟩
theorem OutS.at_ {c : Nat} (h : OutS base bs (.slice (some ⟨kb, 0, none⟩) ss.length c) wr ss kb) : StatesAt wr (some ⟨kb, 0, none⟩) ss := ⟨own_rows h.own, fun _ hx => h.ins.at_ (List.mem_map_of_mem hx)⟩
/-- One state more: x is there in wc; the append turns wc to w'. -/
theorem outS_next {wc w' : World} {v' : Value} {x : Sp} (h : OutS base bs v wc ss kb) (hx : x.h.In base wc.heap.size wc) (hn : ∀ y ∈ ss, ∀ k, y.h.has k → ¬ x.h.has k) (hxk : ¬ x.h.has kb)
    (hown : w'.ownsRow base 34 3 v' (ss.length + 1) (spVals ss ++ spCells x)) (hg : wc.grownBy w' (some kb)) (hl : v'.ownBlock = some kb ∨ ∃ k, v'.ownBlock = some k ∧ wc.heap.size ≤ k) :
    ∃ kb', OutS base (bs ++ [x.body]) v' w' (ss ++ [x]) kb' ∧ (kb' = kb ∨ wc.heap.size ≤ kb') := by
  have hin : HeapsIn base wc ((ss ++ [x]).map Sp.h) := by
    rw [List.map_append]
    refine h.ins.snoc hx fun y hy k hk => ?_
    obtain ⟨z, hz, rfl⟩ := List.mem_map.1 hy
    exact hn z hz k hk
  have hoff : ¬ hasAny ((ss ++ [x]).map Sp.h) kb := by
    rintro ⟨y, hy, hk⟩
    rw [List.map_append] at hy
    rcases List.mem_append.1 hy with hy | hy
    · exact h.off ⟨y, hy, hk⟩
    · rw [List.map_cons, List.map_nil] at hy
      rw [List.mem_singleton.1 hy] at hk
      exact hxk hk
  have hin' : HeapsIn base w' ((ss ++ [x]).map Sp.h) := hin.same hg.size fun y hy k hk => hg.block k (hin.has_lt hy hk).2 fun e => hoff ⟨y, hy, (Option.some.inj e) ▸ hk⟩
  have hbody : (ss ++ [x]).map Sp.body = bs ++ [x.body] := by rw [List.map_append, h.body]; rfl
  have hown' : w'.ownsRow base 34 3 v' (ss ++ [x]).length (spVals (ss ++ [x])) := by
    rw [List.length_append, show spVals (ss ++ [x]) = spVals ss ++ spCells x from fl_snoc ss x]
    exact hown
  rcases hl with hl | ⟨k, hl, hk⟩
  · exact ⟨kb, ⟨hbody, hown', hin', hoff, hl⟩, .inl rfl⟩
  · refine ⟨k, ⟨hbody, hown', hin', ?_, hl⟩, .inr hk⟩
    rintro ⟨y, hy, hyk⟩
    have := (hin.has_lt hy hyk).2
    omega
end
def PutEnd (base : Nat) (bs : List Sb) (x : Sb) (kb : Nat) (w : World) (e : Ending) (w' : World) : Prop :=
  ∃ v' ss' kb', e = .returned v' ∧ OutS base (putS bs x) v' w' ss' kb' ∧ (kb' = kb ∨ w.heap.size ≤ kb') ∧ Only (fun k => k = kb) w w'
theorem put_done {base kb lo cv : Nat} {bs : List Sb} {w W0 w1 Wc w7 : World} {ss : List Sp} {p : Int} {N : Hp} {v7 : Value} (hO : OutS base bs (.slice (some ⟨kb, 0, none⟩) ss.length cv) W0 ss kb) (hw : Below w.heap.size w W0) (hB1 : Below W0.heap.size W0 w1) (hN : N.In lo w1.heap.size w1) (hlo : W0.heap.size ≤ lo) (hbase : base ≤ W0.heap.size) (hkb : kb < W0.heap.size)
    (hc : Below w1.heap.size w1 Wc) (own7 : w7.ownsRow base 34 3 v7 (ss.length + 1) (spVals ss ++ spCells ⟨p, N⟩)) (hg7 : Wc.grownBy w7 (some kb)) (hat : v7.ownBlock = some kb ∨ v7.ownBlock = some Wc.heap.size) (hx : (p, N.body) ∉ bs) : PutEnd base bs (p, N.body) kb w (.returned v7) w7 := by
  have hz1 := hB1.size
  have hz2 := hc.size
  have hz0 := hw.size
  have hBc : Below W0.heap.size W0 Wc := hB1.trans (hc.mono hz1)
  obtain ⟨kb', h1, h2⟩ := outS_next (x := ⟨p, N⟩) (hO.below hBc) ((hN.same hz2 fun k hk => hc.block k (hN.has_lt hk).2).mono (by omega) hz2 (Nat.le_refl _))
    (fun y hy k hk hk2 => by
      have h3 := (hO.ins.has_lt (List.mem_map_of_mem hy) hk).2
      have h4 := (hN.has_lt hk2).1
      omega) (fun hk => by have := (hN.has_lt hk).1; omega) own7 hg7 (hat.imp id fun e => ⟨_, e, Nat.le_refl _⟩)
  refine ⟨v7, _, kb', rfl, by rw [putS, if_neg hx]; exact h1, h2.imp id fun e => by omega, (Only.of_below (hw.trans (hBc.mono hz0))).trans (Only.of_grown hg7 fun k hk => by have := Option.some.inj hk; omega)⟩
set_option maxRecDepth 100000 in
set_option maxHeartbeats 3200000 in
theorem specPut (base : Nat) (bs : List Sb) (v : Value) (ss : List Sp) (kb : Nat) (p : Int) (a b : Option Addr) (ca cb : Nat) (vs zs : List Int) (w : World) (hO : OutS base bs v w ss kb) (hbase : base ≤ w.heap.size) (hlen : ss.length ≤ 16777216) (hl : ∀ x ∈ bs, x.2.1.length ≤ maxLen ∧ x.2.2.length ≤ maxLen)
    (h : HeapAt w a b vs zs) (hna : a = none → ca = 0) (hnb : b = none → cb = 0) (hv : vs.length ≤ 100) (hz : zs.length ≤ 100) :
    Calls Tryz.prog 65 #[v, spC p a vs.length ca b zs.length cb] w (PutEnd base bs (p, vs, zs) kb w) := by
  obtain ⟨i0, hi9, hz0, hz1, hz2⟩ := info_parts stateInfo
  obtain ⟨cv, hcv⟩ := own_some hO.own hO.blk
  subst hcv
  have hkw : kb < w.heap.size := (hO.own.lt kb rfl).2
  have hbox := BoxL.new w [.int .i64 p, .slice a vs.length ca, .slice b zs.length cb] 34
  replace hbox : BoxL (w.alloc (.cells #[.int .i64 p, .slice a vs.length ca, .slice b zs.length cb] 34)) w.heap.size [.int .i64 p, .slice a vs.length ca, .slice b zs.length cb] := hbox
  have hb0 := (Below.refl w.heap.size w).alloc (Nat.le_refl _) (.cells #[.int .i64 p, .slice a vs.length ca, .slice b zs.length cb] 34)
  have hO0 := hO.below hb0
  have hat0 := hO0.at_
  have h0 := h.below hb0 (Nat.le_refl _)
  have hlx : ∀ k (hk : k < ss.length), ss[k].h.vs.length ≤ maxLen ∧ ss[k].h.zs.length ≤ maxLen := fun k hk => by
    have h1 := hl ss[k].body (by rw [← hO.body]; exact List.mem_map_of_mem (List.getElem_mem hk))
    exact h1
  have hbk : ∀ k (hk : k < ss.length), ss[k].body ∈ bs := fun k hk => by rw [← hO.body]; exact List.mem_map_of_mem (List.getElem_mem hk)
  have HBOX := Lib.hid hbox
  have HB0 := Lib.hid hb0
  have HO0 := Lib.hid hO0
  have HAT0 := Lib.hid hat0
  have H0 := Lib.hid h0
  have HLX := Lib.hid hlx
  have HBK := Lib.hid hbk
  have HBS := Lib.hid hO.body
  clear hbox hb0 hO0 hat0 h0 hO h hlx hl hbk
  go_enter Tryz.func65, Tryz.ntmps65
  go_wp2
  obtain ⟨W0, hW0⟩ : ∃ W, w.alloc (.cells #[.int .i64 p, .slice a vs.length ca, .slice b zs.length cb] 34) = W := ⟨_, rfl⟩
  rw [hW0] at HBOX HB0 HO0 HAT0 H0 ⊢
  clear hW0
  have hzW : w.heap.size < W0.heap.size := HBOX.out.lt
  go_loopw [5] (fun i wr => ∃ k : Nat, k ≤ ss.length ∧ i = .int .i64 (k : Int) ∧ (∀ j (hj : j < ss.length), j < k → ss[j].body ≠ (p, (vs, zs))) ∧ Below W0.heap.size W0 wr) (fun i _ => ss.length - (intOf i).toNat)
  case atStart => exact ⟨0, Nat.zero_le _, rfl, fun j _ hj => by omega, Below.refl _ _⟩
  case round =>
    obtain ⟨k, hk, rfl, hne, hbw⟩ := hrel
    by_cases hlt : k < ss.length
    · have hA := fun W hb => (HAT0.out.below (W' := W) hb).item k hlt
      have hlk := HLX.out k hlt
      have hmem := HBK.out k hlt
      have hS : ∀ W, Below W0.heap.size W0 W → (W.cell? ⟨kb, k * 3, none⟩ = some (.int .i64 ss[k].p) ∧ W.cell? ⟨kb, k * 3 + 1, none⟩ = some (.slice ss[k].h.a ss[k].h.vs.length ss[k].h.ca) ∧ W.cell? ⟨kb, k * 3 + 2, none⟩ = some (.slice ss[k].h.b ss[k].h.zs.length ss[k].h.cb)) ∧ (W.cell? ⟨w.heap.size, 0, none⟩ = some (.int .i64 p) ∧ W.cell? ⟨w.heap.size, 1, none⟩ = some (.slice a vs.length ca) ∧ W.cell? ⟨w.heap.size, 2, none⟩ = some (.slice b zs.length cb)) := by
        intro W hb
        obtain ⟨b1, o1, e1, _, p0, p1, p2, _⟩ := hA W hb
        injection e1 with e1
        injection e1 with e1 e1' _
        subst e1 e1'
        rw [Nat.zero_add] at p0 p1 p2
        have hB := HBOX.out.below hb
        exact ⟨⟨p0, p1, p2⟩, hB.c 0 _ rfl, hB.c 1 _ rfl, hB.c 2 _ rfl⟩
      have hR : ∀ W, Below W0.heap.size W0 W → HeapAt W ss[k].h.a ss[k].h.b ss[k].h.vs ss[k].h.zs := fun W hb => by
        obtain ⟨_, _, _, _, _, _, _, q⟩ := hA W hb
        exact q
      have hkey : ss[k].body = (ss[k].p, (ss[k].h.vs, ss[k].h.zs)) := rfl
      have hnx : ss[k].body ≠ (p, (vs, zs)) → ∀ j (hj : j < ss.length), j < k + 1 → ss[j].body ≠ (p, (vs, zs)) := fun hh j hj hjk => by
        rcases Nat.lt_or_ge j k with hq | hq
        · exact hne j hj hq
        · obtain rfl : j = k := by omega
          exact hh
      generalize ss[k] = x at *
      obtain ⟨bb, hbb⟩ : ∃ bb, sameSp x.p p x.h.vs x.h.zs vs zs = bb := ⟨_, rfl⟩
      have HS := Lib.hid hS
      have HR := Lib.hid hR
      have HBB := Lib.hid hbb
      have HNX := Lib.hid hnx
      have hd := Below.drew hbw
      clear hA hS hR hbb hnx hne
      go_wp2_with fail
      go_region_held3 (fun W => (W.cell? ⟨kb, k * 3, none⟩ = some (.int .i64 x.p) ∧ W.cell? ⟨kb, k * 3 + 1, none⟩ = some (.slice x.h.a x.h.vs.length x.h.ca) ∧ W.cell? ⟨kb, k * 3 + 2, none⟩ = some (.slice x.h.b x.h.zs.length x.h.cb)) ∧ (W.cell? ⟨w.heap.size, 0, none⟩ = some (.int .i64 p) ∧ W.cell? ⟨w.heap.size, 1, none⟩ = some (.slice a vs.length ca) ∧ W.cell? ⟨w.heap.size, 2, none⟩ = some (.slice b zs.length cb)))
        (first | with_reducible exact HS.out _ hd | with_reducible exact HS.out _ hB1)
        (first | (go_at_call 20; (with_reducible refine (specEqualState x.p p x.h.a x.h.b a b x.h.ca x.h.cb ca cb x.h.vs x.h.zs vs zs _ hlk.1 hlk.2 (HR.out _ hd) (H0.out.below hd (Nat.le_refl _))).mono ?_); rw [HBB.out]; rintro e w1 ⟨rfl, hb1⟩; have hB1 := hd.trans (hb1.mono hd.size)))
      have HB1 := Lib.hid hB1
      clear hB1 hb1 hd hbw
      cases bb
      case' false =>
        go_wp2
        go_roundw
        case rel => exact ⟨k + 1, by omega, by go_num, HNX.out (fun e => by
          rw [hkey] at e
          have h1 := HBB.out
          rw [sameSp_iff.2 ⟨congrArg Prod.fst e, congrArg (fun z => z.2.1) e, congrArg (fun z => z.2.2) e⟩] at h1
          cases h1), HB1.out⟩
        case measure => simp [intOf]; omega
      case' true =>
        have hx : (p, (vs, zs)) ∈ bs := by
          obtain ⟨e1, e2, e3⟩ := sameSp_iff.1 HBB.out
          rw [← e1, ← e2, ← e3]
          exact hmem
        have HE := Lib.hid (show PutEnd base bs (p, vs, zs) kb w (.returned (.slice (some ⟨kb, 0, none⟩) ss.length cv)) w1 from
          ⟨_, ss, kb, rfl, by rw [putS, if_pos hx]; exact HO0.out.below HB1.out, .inl rfl, Only.of_below (HB0.out.trans (HB1.out.mono (Nat.le_of_lt hzW)))⟩)
        clear hmem hkey hx
        go_wp2
        go_ret
        exact HE.out
    · have hnot : (p, (vs, zs)) ∉ bs := by
        rw [← HBS.out]
        intro hm
        obtain ⟨y, hy, e⟩ := List.mem_map.1 hm
        obtain ⟨j, hj, rfl⟩ := List.getElem_of_mem hy
        exact hne j hj (by omega) e
      have hS : ∀ W, Below W0.heap.size W0 W → W.cell? ⟨w.heap.size, 0, none⟩ = some (.int .i64 p) ∧ W.cell? ⟨w.heap.size, 1, none⟩ = some (.slice a vs.length ca) ∧ W.cell? ⟨w.heap.size, 2, none⟩ = some (.slice b zs.length cb) := fun W hb => by
        have hB := HBOX.out.below hb
        exact ⟨hB.c 0 _ rfl, hB.c 1 _ rfl, hB.c 2 _ rfl⟩
      have HS := Lib.hid hS
      have HN := Lib.hid hnot
      have hd := Below.drew hbw
      have hbW0 : base ≤ W0.heap.size := Nat.le_trans hbase (Nat.le_of_lt hzW)
      clear hS hnot hne
      go_wp2
      go_region_held3 (fun W => W.cell? ⟨w.heap.size, 0, none⟩ = some (.int .i64 p) ∧ W.cell? ⟨w.heap.size, 1, none⟩ = some (.slice a vs.length ca) ∧ W.cell? ⟨w.heap.size, 2, none⟩ = some (.slice b zs.length cb))
        (first | with_reducible exact HS.out _ hd | with_reducible exact HS.out _ hB1 | with_reducible exact hS7 | (exact HS.out _ (by repeat (first | with_reducible exact hB1 | with_reducible refine Below.drew ?_ | with_reducible refine Below.alloc ?_ (Nat.le_trans hB1.size (by simp)) _))))
        (first
          | (go_at_call 57; (with_reducible refine (specCopy a b ca cb vs zs _ hna hnb (H0.out.below hd (Nat.le_refl _)) hv hz).mono ?_); rintro e w1 ⟨a1, c1, b1, d1, rfl, hin1, hb1⟩; have hB1 := hd.trans (hb1.mono hd.size))
          | (refine step_append_row _ rfl (.tmp 19) (.tmp 26) 41 rfl base 34 i0 (.agg #[.int .i64 0, .slice none 0 0, .slice none 0 0]) 3 56 Tryz.underlying41 hi9 hz0 hz1 hz2 rfl (by decide) (.slice (some ⟨kb, 0, none⟩) ss.length cv) ss.length (spVals ss) rfl ?_ (some ⟨_, 0, none⟩) 1 1 [.int .i64 p, .slice a1 vs.length c1, .slice b1 zs.length d1] rfl (fun e => by cases e) rfl ?_ (lit3_one _ _ _ _ _ _ _) (by unfold maxLen; omega) (by omega) ?_ ?_
             · exact (HO0.out.below hB1).own.alloc _
             · intro ad e j u hj
               cases e
               exact lit3_news _ _ _ _ _ j u hj
             · exact Nat.le_trans hbW0 (Nat.le_trans hB1.size (by simp))
             intro v7 w7 own7 hg7 hat7 _
             have hS7 : w7.cell? ⟨w.heap.size, 0, none⟩ = some (.int .i64 p) ∧ w7.cell? ⟨w.heap.size, 1, none⟩ = some (.slice a vs.length ca) ∧ w7.cell? ⟨w.heap.size, 2, none⟩ = some (.slice b zs.length cb) := by
               have hB8 := (HBOX.out.below hB1).below ((Below.refl w1.heap.size w1).alloc (Nat.le_refl _) (.cells #[.int .i64 p, .slice a1 vs.length c1, .slice b1 zs.length d1] 34))
               have hq := hg7.block w.heap.size hB8.lt (fun e => by have h1 : w.heap.size = kb := Option.some.inj e; omega)
               exact ⟨(World.cell?_of_block hq).trans (hB8.c 0 _ rfl), (World.cell?_of_block hq).trans (hB8.c 1 _ rfl), (World.cell?_of_block hq).trans (hB8.c 2 _ rfl)⟩))
      have hN : Hp.In wr.drew.heap.size w1.heap.size w1 ⟨a1, c1, b1, d1, vs, zs⟩ := hin1
      have HE := Lib.hid (put_done HO0.out HB0.out hB1 hN hd.size hbW0 (Nat.lt_trans hkw hzW) ((Below.refl w1.heap.size w1).alloc (Nat.le_refl _) _) own7 hg7 hat7 HN.out)
      clear hN own7 hg7 hat7 hB1 hin1 hb1 hd
      go_wp2
      go_ret
      exact HE.out
end Go.Proofs.YtpmmjaceehlpiaaGreatDoor
