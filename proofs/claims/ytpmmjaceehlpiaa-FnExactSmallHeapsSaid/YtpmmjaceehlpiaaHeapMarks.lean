/-
  The law writes marks into the heaps of a row, and looks later whether they are still there.
-/
import Derived.Test.YtpmmjaceehlpiaaHeapLists
import Derived.Test.YtpmmjaceehlpiaaMarkInts
namespace Go.Proofs.Ytpmmjaceehlpiaa
open Go Go.RowKit

/-- A heap that bears the marks from k on. -/
def markHp (k : Nat) (x : Hp) : Hp := ⟨x.a, x.ca, x.b, x.cb, numsFrom k x.vs.length, numsFrom (k + x.vs.length) x.zs.length⟩
def markHps (k : Nat) : List Hp → List Hp
  | [] => []
  | x :: hs => markHp k x :: markHps (k + hpSize x) hs
theorem markHps_length : ∀ (k : Nat) (hs : List Hp), (markHps k hs).length = hs.length
  | _, [] => rfl
  | k, x :: hs => by simp [markHps, markHps_length]
theorem hpTotal_cons (x : Hp) (hs : List Hp) : hpTotal (x :: hs) = hpSize x + hpTotal hs := by simp [hpTotal]
theorem markHps_snoc : ∀ (k : Nat) (hs : List Hp) (x : Hp), markHps k (hs ++ [x]) = markHps k hs ++ [markHp (k + hpTotal hs) x]
  | k, [], x => by simp [markHps, hpTotal]
  | k, y :: hs, x => by
    show markHp k y :: markHps (k + hpSize y) (hs ++ [x]) = markHp k y :: (markHps (k + hpSize y) hs ++ _)
    rw [markHps_snoc, hpTotal_cons, Nat.add_assoc]
theorem hpCells_mark (k : Nat) (x : Hp) : hpCells (markHp k x) = hpCells x := by simp [hpCells, markHp, numsFrom_length]
theorem hpVals_marks : ∀ (k : Nat) (hs : List Hp), hpVals (markHps k hs) = hpVals hs
  | _, [] => rfl
  | k, x :: hs => by
    show hpCells (markHp k x) ++ hpVals (markHps (k + hpSize x) hs) = hpCells x ++ hpVals hs
    rw [hpCells_mark, hpVals_marks]
theorem hpSize_mark (k : Nat) (x : Hp) : hpSize (markHp k x) = hpSize x := by simp [hpSize, markHp, numsFrom_length]
theorem has_mark {k : Nat} {x : Hp} {j : Nat} : (markHp k x).has j ↔ x.has j := by simp [Hp.has, markHp, numsFrom_length]
/-- The first j heaps are marked. -/
def curM (k : Nat) (hs : List Hp) (j : Nat) : List Hp := markHps k (hs.take j) ++ hs.drop j
theorem curM_zero (k : Nat) (hs : List Hp) : curM k hs 0 = hs := by simp [curM, markHps]
theorem curM_full (k : Nat) (hs : List Hp) : curM k hs hs.length = markHps k hs := by simp [curM]
theorem curM_length (k : Nat) (hs : List Hp) {j : Nat} (h : j ≤ hs.length) : (curM k hs j).length = hs.length := by simp [curM, markHps_length]; omega
theorem curM_at (k : Nat) (hs : List Hp) {j : Nat} (h : j < hs.length) : (curM k hs j)[j]'(by rw [curM_length k hs (by omega)]; exact h) = hs[j] := by
  have hl : (markHps k (hs.take j)).length = j := by rw [markHps_length]; simp; omega
  simp only [curM]
  rw [List.getElem_append_right (by omega)]
  simp [hl]
theorem curM_next (k : Nat) (hs : List Hp) {j : Nat} (h : j < hs.length) : curM k hs (j + 1) = (curM k hs j).set j (markHp (k + hpTotal (hs.take j)) hs[j]) := by
  have hl : (markHps k (hs.take j)).length = j := by rw [markHps_length]; simp; omega
  unfold curM
  rw [take_next hs j h, markHps_snoc, List.drop_eq_getElem_cons h, List.set_append_right _ _ (by omega), hl, Nat.sub_self, List.set_cons_zero, List.append_assoc]
  rfl
/-- A block of one of the heaps. -/
def hasAny (hs : List Hp) (k : Nat) : Prop := ∃ x ∈ hs, x.has k

theorem marked_in {lo m : Nat} {W W1 W2 : World} {x : Hp} {S : Nat → Prop} (hx : x.In lo W.heap.size W) (hS : ∀ k, x.has k → S k)
    (ho1 : W1.ownsRow lo 3 1 (.slice x.a x.vs.length x.ca) x.vs.length (intVals (numsFrom m x.vs.length))) (hg1 : W.grownBy W1 (Value.slice x.a x.vs.length x.ca).ownBlock)
    (ho2 : W2.ownsRow lo 3 1 (.slice x.b x.zs.length x.cb) x.zs.length (intVals (numsFrom (m + x.vs.length) x.zs.length))) (hg2 : W1.grownBy W2 (Value.slice x.b x.zs.length x.cb).ownBlock) :
    (markHp m x).In lo W2.heap.size W2 ∧ Only S W W2 ∧ (∀ k, k < W.heap.size → ¬ x.has k → W2.heap[k]? = W.heap[k]?) := by
  have hv := hx.v
  have hz := hx.z
  have hap := hx.apart
  rw [intVals_length] at hv hz
  rw [intVals_length, intVals_length] at hap
  have e1 : (intVals (numsFrom m x.vs.length)).length = x.vs.length := by rw [intVals_length, numsFrom_length]
  have e2 : (intVals (numsFrom (m + x.vs.length) x.zs.length)).length = x.zs.length := by rw [intVals_length, numsFrom_length]
  have hs1 : W.heap.size ≤ W1.heap.size := hg1.size
  have hs2 : W1.heap.size ≤ W2.heap.size := hg2.size
  have ho1' := own_other ho1 hg2 fun k hk e => hap k hk e.symm
  refine ⟨⟨?_, ?_, ?_⟩, (Only.of_grown hg1 fun k hk => hS k (.inl hk)).trans (Only.of_grown hg2 fun k hk => hS k (.inr hk)), fun k hk hn => ?_⟩
  · show OwnIn lo W2.heap.size W2 3 1 (.slice x.a (intVals (numsFrom m x.vs.length)).length x.ca) (intVals (numsFrom m x.vs.length)).length (intVals (numsFrom m x.vs.length))
    rw [e1]
    exact ⟨Nat.le_refl _, ho1', fun k hk => Nat.lt_of_lt_of_le (hv.2.2 k hk) (Nat.le_trans hs1 hs2)⟩
  · show OwnIn lo W2.heap.size W2 3 1 (.slice x.b (intVals (numsFrom (m + x.vs.length) x.zs.length)).length x.cb) (intVals (numsFrom (m + x.vs.length) x.zs.length)).length (intVals (numsFrom (m + x.vs.length) x.zs.length))
    rw [e2]
    exact ⟨Nat.le_refl _, ho2, fun k hk => Nat.lt_of_lt_of_le (hz.2.2 k hk) (Nat.le_trans hs1 hs2)⟩
  · show ∀ j, (Value.slice x.a (intVals (numsFrom m x.vs.length)).length x.ca).ownBlock = some j → (Value.slice x.b (intVals (numsFrom (m + x.vs.length) x.zs.length)).length x.cb).ownBlock ≠ some j
    rw [e1, e2]
    exact hap
  · exact (hg2.block k (Nat.lt_of_lt_of_le hk hs1) fun e => hn (.inr e.symm)).trans (hg1.block k hk fun e => hn (.inl e.symm))

/-- Marks laid into the heaps of a row. -/
def MarkedHeaps (lo k : Nat) (hs : List Hp) (w : World) (e : Ending) (w' : World) : Prop :=
  e = .returned (.int .i64 ((k + hpTotal hs : Nat) : Int)) ∧ HeapsIn lo w' (markHps k hs) ∧ Only (hasAny hs) w w'
set_option maxHeartbeats 1600000 in
theorem markHeapRows (lo k : Nat) (a : Option Addr) (cap : Nat) (hs : List Hp) (w : World) (hn : hs.length ≤ 1099511627776) (hk : k + hpTotal hs ≤ 54975581388) (hrow : Row w w.heap.size a (hpVals hs)) (hoff : ∀ b o, a = some ⟨b, o, none⟩ → ¬ hasAny hs b) (h : HeapsIn lo w hs) :
    Calls Try.prog 8 #[.slice a hs.length cap, .int .i64 k] w (MarkedHeaps lo k hs w) := by
  go_enter Try.func8, Try.ntmps8
  go_wp2
  go_loopw [1, 5] (fun m i wr => ∃ j : Nat, j ≤ hs.length ∧ i = .int .i64 j ∧ m = .int .i64 ((k + hpTotal (hs.take j) : Nat) : Int) ∧ HeapsIn lo wr (curM k hs j) ∧ Only (hasAny hs) w wr) (fun _ i _ => hs.length - (intOf i).toNat)
  case atStart => exact ⟨0, Nat.zero_le _, rfl, by simp [hpTotal], by rw [curM_zero]; exact h, Only.refl⟩
  case round =>
    obtain ⟨j, hj, rfl, rfl, hin, ht⟩ := hrel
    by_cases hlt : j < hs.length
    · obtain ⟨b, o, rfl, hbW, hc⟩ := Row.item hpCells_length (by omega) hrow j hlt
      have hnb := hoff b o rfl
      have hmem : hs[j] ∈ hs := List.getElem_mem hlt
      have hcur := curM_at k hs hlt
      have hlc : j < (curM k hs j).length := by rw [curM_length k hs (by omega)]; exact hlt
      have hx := hin.each _ (List.getElem_mem hlc)
      rw [hcur] at hx
      have htot := hpTotal_next hs j hlt
      have hle : hpTotal (hs.take (j + 1)) ≤ hpTotal hs := hpTotal_take hs (j + 1)
      have hset := curM_next k hs hlt
      have hS : ∀ i, hs[j].has i → hasAny hs i := fun i hi => ⟨_, hmem, hi⟩
      have hxb : ¬ hs[j].has b := fun hb => hnb ⟨_, hmem, hb⟩
      have hbr : b < wr.heap.size := Nat.lt_of_lt_of_le hbW ht.size
      have c0 : wr.cell? ⟨b, o + j * 2, none⟩ = some (.slice hs[j].a hs[j].vs.length hs[j].ca) := (World.cell?_of_block (ht.block b hbW hnb)).trans (hc 0 _ rfl)
      have c1 : wr.cell? ⟨b, o + j * 2 + 1, none⟩ = some (.slice hs[j].b hs[j].zs.length hs[j].cb) := (World.cell?_of_block (ht.block b hbW hnb)).trans (hc 1 _ rfl)
      have hstep : ∀ W2, Only (hasAny hs) wr W2 → (markHp (k + hpTotal (hs.take j)) hs[j]).In lo W2.heap.size W2 → (∀ i, i < wr.heap.size → ¬ hs[j].has i → W2.heap[i]? = wr.heap[i]?) → HeapsIn lo W2 (curM k hs (j + 1)) ∧ Only (hasAny hs) w W2 := by
        intro W2 ht2 hy hb
        refine ⟨?_, ht.trans ht2⟩
        rw [hset]
        exact hin.set hlc ht2.size (by rw [hcur]; exact hb) hy (fun i hi => by rw [hcur]; exact has_mark.1 hi)
      have hm : hpSize hs[j] = hs[j].vs.length + hs[j].zs.length := rfl
      generalize hs[j] = x at *
      generalize hpTotal (hs.take j) = T at *
      have HST := Lib.hid hstep
      have HX := Lib.hid hx
      have HTOT := Lib.hid htot
      have hkm : k + T + x.vs.length + x.zs.length ≤ 54975581388 := by omega
      have hxv := hx.v.2.1
      have hxz := hx.z.2.1
      rw [intVals_length] at hxv hxz
      have hap := hx.apart
      rw [intVals_length, intVals_length] at hap
      clear hstep hx hset hcur hin htot hc
      go_wp2_with fail
      refine (markInts lo (k + T) x.vs.length x.a x.ca _ _ (by omega) (by omega) hxv).mono ?_
      rintro e w1 ⟨rfl, ho1, hg1⟩
      have d1 : w1.cell? ⟨b, o + j * 2 + 1, none⟩ = some (.slice x.b x.zs.length x.cb) := (World.cell?_of_block (hg1.block b hbr fun e => hxb (.inl e.symm))).trans c1
      have hz1 := own_other hxz hg1 fun i hi e => hap i e.symm hi
      clear c0 c1
      go_wp2_with fail
      have ek : ((k + T : Nat) : Int) + (x.vs.length : Int) = ((k + T + x.vs.length : Nat) : Int) := by omega
      try rw [ek]
      refine (markInts lo (k + T + x.vs.length) x.zs.length x.b x.cb _ _ (by omega) (by omega) hz1).mono ?_
      rintro e w2 ⟨rfl, ho2, hg2⟩
      obtain ⟨hy, ht2, hb2⟩ := marked_in HX.out hS ho1 hg1 ho2 hg2
      have HF := Lib.hid (HST.out w2 ht2 hy hb2)
      have hkT : ((k + T + x.vs.length + x.zs.length : Nat) : Int) = ((k + hpTotal (hs.take (j + 1)) : Nat) : Int) := by rw [HTOT.out, hm]; omega
      rw [hkT]
      clear ek hkT hy ht2 hb2 ho1 ho2 hg1 hg2 hz1 hxv hxz hap d1 hkm
      go_wp2
      go_roundw
      case rel => exact ⟨j + 1, by omega, by go_num, rfl, HF.out.1, HF.out.2⟩
      case measure => simp [intOf]; omega
    · have hj' : j = hs.length := by omega
      subst hj'
      rw [List.take_length] at *
      rw [curM_full] at hin
      have HE := Lib.hid (show MarkedHeaps lo k hs w (.returned (.int .i64 ((k + hpTotal hs : Nat) : Int))) wr from ⟨rfl, hin, ht⟩)
      clear hin ht
      go_wp2
      go_ret
      exact HE.out

theorem markHp_at (k : Nat) : ∀ (hs : List Hp) (j : Nat) (h : j < hs.length), (markHps k hs)[j]'(by rw [markHps_length]; exact h) = markHp (k + hpTotal (hs.take j)) hs[j]
  | x :: hs, 0, _ => by simp [markHps, hpTotal]
  | x :: hs, j + 1, h => by
    have h' : j < hs.length := by simpa using h
    have := markHp_at (k + hpSize x) hs j h'
    simp only [markHps, List.getElem_cons_succ, List.take_succ_cons]
    rw [this, hpTotal_cons, Nat.add_assoc]

set_option maxHeartbeats 800000 in
theorem heldHeapRows (k : Nat) (a : Option Addr) (cap : Nat) (hs : List Hp) (w : World) (hn : hs.length ≤ 1099511627776) (hk : k + hpTotal hs ≤ 54975581388) (hrow : HeapsAt w a (markHps k hs)) :
    Calls Try.prog 9 #[.slice a hs.length cap, .int .i64 k] w (GaveX (.int .i64 ((k + hpTotal hs : Nat) : Int)) w) := by
  go_enter Try.func9, Try.ntmps9
  go_wp2
  go_loopw [1, 5] (fun m i wr => ∃ j : Nat, j ≤ hs.length ∧ i = .int .i64 j ∧ m = .int .i64 ((k + hpTotal (hs.take j) : Nat) : Int) ∧ wr = w) (fun _ i _ => hs.length - (intOf i).toNat)
  case atStart => exact ⟨0, Nat.zero_le _, rfl, by simp [hpTotal], rfl⟩
  case round =>
    obtain ⟨j, hj, rfl, rfl, rfl⟩ := hrel
    by_cases hlt : j < hs.length
    · obtain ⟨b, o, rfl, hbW, c0, c1, hat⟩ := hrow.item j (by rw [markHps_length]; exact hlt)
      rw [markHp_at k hs j hlt] at c0 c1 hat
      have htot := hpTotal_next hs j hlt
      have hle : hpTotal (hs.take (j + 1)) ≤ hpTotal hs := hpTotal_take hs (j + 1)
      have hm : hpSize hs[j] = hs[j].vs.length + hs[j].zs.length := rfl
      generalize hs[j] = x at *
      generalize hpTotal (hs.take j) = T at *
      simp only [markHp, numsFrom_length] at c0 c1
      have hav := hat.v
      have haz := hat.z
      simp only [markHp] at hav haz
      have hkm : k + T + x.vs.length + x.zs.length ≤ 54975581388 := by omega
      have HTOT := Lib.hid htot
      clear hat htot
      go_wp2_with fail
      refine (heldInts (k + T) x.vs.length x.a x.ca _ (by omega) (by omega) hav).mono ?_
      rintro e w1 ⟨rfl, rfl⟩
      have q0 : ¬ ((k + T + x.vs.length : Nat) : Int) < 0 := by omega
      go_wp2_with fail
      refine (heldInts (k + T + x.vs.length) x.zs.length x.b x.cb _ (by omega) (by omega) haz).mono ?_
      rintro e w1 ⟨rfl, rfl⟩
      have hkT : ((k + T + x.vs.length + x.zs.length : Nat) : Int) = ((k + hpTotal (hs.take (j + 1)) : Nat) : Int) := by rw [HTOT.out, hm]; omega
      rw [hkT]
      have q1 : ¬ ((k + hpTotal (hs.take (j + 1)) : Nat) : Int) < 0 := by omega
      clear c0 c1 hav haz hkT
      go_wp2
      go_roundw
      case rel => exact ⟨j + 1, by omega, by go_num, by first | rfl | trivial, by first | rfl | trivial⟩
      case measure => simp [intOf]; omega
    · have hj' : j = hs.length := by omega
      subst hj'
      rw [List.take_length] at *
      go_wp2
      go_ret
      exact ⟨rfl, Below.refl _ _⟩
end Go.Proofs.Ytpmmjaceehlpiaa
