/-
  Several texts of one proof in one file, in the order in which they build.
-/
import Derived.Test.YtpmmjaceehlpiaaGreatDoorR10
import Derived.Test.YtpmmjaceehlpiaaGreatDoorR06
import Derived.Test.YtpmmjaceehlpiaaGreatDoorR11
import Derived.Test.YtpmmjaceehlpiaaGreatDoorR03
import Derived.Test.YtpmmjaceehlpiaaGreatDoorR15
import Derived.Test.YtpmmjaceehlpiaaGreatDoorR17
/-
  The law writes marks into the heaps of a row, and looks later whether they are still there.
-/
namespace Go.Proofs.YtpmmjaceehlpiaaGreatDoor
open Go Go.RowKit

/-- A heap that bears the marks from k on. -/
def markHp (k : Nat) (x : Hp) : Hp := ⟨x.a, x.ca, x.b, x.cb, numsFrom k x.vs.length, numsFrom (k + x.vs.length) x.zs.length⟩
def markHps (k : Nat) : List Hp → List Hp
  | [] => []
  | x :: hs => markHp k x :: markHps (k + hpSize x) hs
theorem markHps_length : ∀ (k : Nat) (hs : List Hp), (markHps k hs).length = hs.length
  | _, [] => rfl
  | k, x :: hs => by simp [markHps, markHps_length]
theorem hpTotal_cons (x : Hp) (hs : List Hp) : hpTotal (x :: hs) = hpSize x + hpTotal hs := by simp [hpTotal]
theorem markHps_snoc : ∀ (k : Nat) (hs : List Hp) (x : Hp), markHps k (hs ++ [x]) = markHps k hs ++ [markHp (k + hpTotal hs) x]
  | k, [], x => by simp [markHps, hpTotal]
  | k, y :: hs, x => by
    show markHp k y :: markHps (k + hpSize y) (hs ++ [x]) = markHp k y :: (markHps (k + hpSize y) hs ++ _)
    rw [markHps_snoc, hpTotal_cons, Nat.add_assoc]
theorem hpCells_mark (k : Nat) (x : Hp) : hpCells (markHp k x) = hpCells x := by simp [hpCells, markHp, numsFrom_length]
theorem hpVals_marks : ∀ (k : Nat) (hs : List Hp), hpVals (markHps k hs) = hpVals hs
  | _, [] => rfl
  | k, x :: hs => by
    show hpCells (markHp k x) ++ hpVals (markHps (k + hpSize x) hs) = hpCells x ++ hpVals hs
    rw [hpCells_mark, hpVals_marks]
theorem hpSize_mark (k : Nat) (x : Hp) : hpSize (markHp k x) = hpSize x := by simp [hpSize, markHp, numsFrom_length]
theorem has_mark {k : Nat} {x : Hp} {j : Nat} : (markHp k x).has j ↔ x.has j := by simp [Hp.has, markHp, numsFrom_length]
/-- The first j heaps are marked. -/
def curM (k : Nat) (hs : List Hp) (j : Nat) : List Hp := markHps k (hs.take j) ++ hs.drop j
theorem curM_zero (k : Nat) (hs : List Hp) : curM k hs 0 = hs := by simp [curM, markHps]
theorem curM_full (k : Nat) (hs : List Hp) : curM k hs hs.length = markHps k hs := by simp [curM]
theorem curM_length (k : Nat) (hs : List Hp) {j : Nat} (h : j ≤ hs.length) : (curM k hs j).length = hs.length := by simp [curM, markHps_length]; omega
theorem curM_at (k : Nat) (hs : List Hp) {j : Nat} (h : j < hs.length) : (curM k hs j)[j]'(by rw [curM_length k hs (by omega)]; exact h) = hs[j] := by
  have hl : (markHps k (hs.take j)).length = j := by rw [markHps_length]; simp; omega
  simp only [curM]
  rw [List.getElem_append_right (by omega)]
  simp [hl]
theorem curM_next (k : Nat) (hs : List Hp) {j : Nat} (h : j < hs.length) : curM k hs (j + 1) = (curM k hs j).set j (markHp (k + hpTotal (hs.take j)) hs[j]) := by
  have hl : (markHps k (hs.take j)).length = j := by rw [markHps_length]; simp; omega
  unfold curM
  rw [take_next hs j h, markHps_snoc, List.drop_eq_getElem_cons h, List.set_append_right _ _ (by omega), hl, Nat.sub_self, List.set_cons_zero, List.append_assoc]
  rfl
/-- A block of one of the heaps. -/
def hasAny (hs : List Hp) (k : Nat) : Prop := ∃ x ∈ hs, x.has k

theorem marked_in {lo m : Nat} {W W1 W2 : World} {x : Hp} {S : Nat → Prop} (hx : x.In lo W.heap.size W) (hS : ∀ k, x.has k → S k)
    (ho1 : W1.ownsRow lo 3 1 (.slice x.a x.vs.length x.ca) x.vs.length (intVals (numsFrom m x.vs.length))) (hg1 : W.grownBy W1 (Value.slice x.a x.vs.length x.ca).ownBlock)
    (ho2 : W2.ownsRow lo 3 1 (.slice x.b x.zs.length x.cb) x.zs.length (intVals (numsFrom (m + x.vs.length) x.zs.length))) (hg2 : W1.grownBy W2 (Value.slice x.b x.zs.length x.cb).ownBlock) :
    (markHp m x).In lo W2.heap.size W2 ∧ Only S W W2 ∧ (∀ k, k < W.heap.size → ¬ x.has k → W2.heap[k]? = W.heap[k]?) := by
  have hv := hx.v
  have hz := hx.z
  have hap := hx.apart
  rw [intVals_length] at hv hz
  rw [intVals_length, intVals_length] at hap
  have e1 : (intVals (numsFrom m x.vs.length)).length = x.vs.length := by rw [intVals_length, numsFrom_length]
  have e2 : (intVals (numsFrom (m + x.vs.length) x.zs.length)).length = x.zs.length := by rw [intVals_length, numsFrom_length]
  have hs1 : W.heap.size ≤ W1.heap.size := hg1.size
  have hs2 : W1.heap.size ≤ W2.heap.size := hg2.size
  have ho1' := own_other ho1 hg2 fun k hk e => hap k hk e.symm
  refine ⟨⟨?_, ?_, ?_⟩, (Only.of_grown hg1 fun k hk => hS k (.inl hk)).trans (Only.of_grown hg2 fun k hk => hS k (.inr hk)), fun k hk hn => ?_⟩
  · show OwnIn lo W2.heap.size W2 3 1 (.slice x.a (intVals (numsFrom m x.vs.length)).length x.ca) (intVals (numsFrom m x.vs.length)).length (intVals (numsFrom m x.vs.length))
    rw [e1]
    exact ⟨Nat.le_refl _, ho1', fun k hk => Nat.lt_of_lt_of_le (hv.2.2 k hk) (Nat.le_trans hs1 hs2)⟩
  · show OwnIn lo W2.heap.size W2 3 1 (.slice x.b (intVals (numsFrom (m + x.vs.length) x.zs.length)).length x.cb) (intVals (numsFrom (m + x.vs.length) x.zs.length)).length (intVals (numsFrom (m + x.vs.length) x.zs.length))
    rw [e2]
    exact ⟨Nat.le_refl _, ho2, fun k hk => Nat.lt_of_lt_of_le (hz.2.2 k hk) (Nat.le_trans hs1 hs2)⟩
  · show ∀ j, (Value.slice x.a (intVals (numsFrom m x.vs.length)).length x.ca).ownBlock = some j → (Value.slice x.b (intVals (numsFrom (m + x.vs.length) x.zs.length)).length x.cb).ownBlock ≠ some j
    rw [e1, e2]
    exact hap
  · exact (hg2.block k (Nat.lt_of_lt_of_le hk hs1) fun e => hn (.inr e.symm)).trans (hg1.block k hk fun e => hn (.inl e.symm))

/-- Marks laid into the heaps of a row. -/
def MarkedHeaps (lo k : Nat) (hs : List Hp) (w : World) (e : Ending) (w' : World) : Prop :=
  e = .returned (.int .i64 ((k + hpTotal hs : Nat) : Int)) ∧ HeapsIn lo w' (markHps k hs) ∧ Only (hasAny hs) w w'
set_option maxHeartbeats 1600000 in
theorem markHeapRows (lo k : Nat) (a : Option Addr) (cap : Nat) (hs : List Hp) (w : World) (hn : hs.length ≤ 1099511627776) (hk : k + hpTotal hs ≤ 54975581388) (hrow : Row w w.heap.size a (hpVals hs)) (hoff : ∀ b o, a = some ⟨b, o, none⟩ → ¬ hasAny hs b) (h : HeapsIn lo w hs) :
    Calls Tryz.prog 40 #[.slice a hs.length cap, .int .i64 k] w (MarkedHeaps lo k hs w) := by
  go_enter Tryz.func40, Tryz.ntmps40
  go_wp2
  go_loopw [1, 5] (fun m i wr => ∃ j : Nat, j ≤ hs.length ∧ i = .int .i64 j ∧ m = .int .i64 ((k + hpTotal (hs.take j) : Nat) : Int) ∧ HeapsIn lo wr (curM k hs j) ∧ Only (hasAny hs) w wr) (fun _ i _ => hs.length - (intOf i).toNat)
  case atStart => exact ⟨0, Nat.zero_le _, rfl, by simp [hpTotal], by rw [curM_zero]; exact h, Only.refl⟩
  case round =>
    obtain ⟨j, hj, rfl, rfl, hin, ht⟩ := hrel
    by_cases hlt : j < hs.length
    · obtain ⟨b, o, rfl, hbW, hc⟩ := Row.item hpCells_length (by omega) hrow j hlt
      have hnb := hoff b o rfl
      have hmem : hs[j] ∈ hs := List.getElem_mem hlt
      have hcur := curM_at k hs hlt
      have hlc : j < (curM k hs j).length := by rw [curM_length k hs (by omega)]; exact hlt
      have hx := hin.each _ (List.getElem_mem hlc)
      rw [hcur] at hx
      have htot := hpTotal_next hs j hlt
      have hle : hpTotal (hs.take (j + 1)) ≤ hpTotal hs := hpTotal_take hs (j + 1)
      have hset := curM_next k hs hlt
      have hS : ∀ i, hs[j].has i → hasAny hs i := fun i hi => ⟨_, hmem, hi⟩
      have hxb : ¬ hs[j].has b := fun hb => hnb ⟨_, hmem, hb⟩
      have hbr : b < wr.heap.size := Nat.lt_of_lt_of_le hbW ht.size
      have c0 : wr.cell? ⟨b, o + j * 2, none⟩ = some (.slice hs[j].a hs[j].vs.length hs[j].ca) := (World.cell?_of_block (ht.block b hbW hnb)).trans (hc 0 _ rfl)
      have c1 : wr.cell? ⟨b, o + j * 2 + 1, none⟩ = some (.slice hs[j].b hs[j].zs.length hs[j].cb) := (World.cell?_of_block (ht.block b hbW hnb)).trans (hc 1 _ rfl)
      have hstep : ∀ W2, Only (hasAny hs) wr W2 → (markHp (k + hpTotal (hs.take j)) hs[j]).In lo W2.heap.size W2 → (∀ i, i < wr.heap.size → ¬ hs[j].has i → W2.heap[i]? = wr.heap[i]?) → HeapsIn lo W2 (curM k hs (j + 1)) ∧ Only (hasAny hs) w W2 := by
        intro W2 ht2 hy hb
        refine ⟨?_, ht.trans ht2⟩
        rw [hset]
        exact hin.set hlc ht2.size (by rw [hcur]; exact hb) hy (fun i hi => by rw [hcur]; exact has_mark.1 hi)
      have hm : hpSize hs[j] = hs[j].vs.length + hs[j].zs.length := rfl
      generalize hs[j] = x at *
      generalize hpTotal (hs.take j) = T at *
      have HST := Lib.hid hstep
      have HX := Lib.hid hx
      have HTOT := Lib.hid htot
      have hkm : k + T + x.vs.length + x.zs.length ≤ 54975581388 := by omega
      have hxv := hx.v.2.1
      have hxz := hx.z.2.1
      rw [intVals_length] at hxv hxz
      have hap := hx.apart
      rw [intVals_length, intVals_length] at hap
      clear hstep hx hset hcur hin htot hc
      go_wp2_with fail
      refine (markInts lo (k + T) x.vs.length x.a x.ca _ _ (by omega) (by omega) hxv).mono ?_
      rintro e w1 ⟨rfl, ho1, hg1⟩
      have d1 : w1.cell? ⟨b, o + j * 2 + 1, none⟩ = some (.slice x.b x.zs.length x.cb) := (World.cell?_of_block (hg1.block b hbr fun e => hxb (.inl e.symm))).trans c1
      have hz1 := own_other hxz hg1 fun i hi e => hap i e.symm hi
      clear c0 c1
      go_wp2_with fail
      have ek : ((k + T : Nat) : Int) + (x.vs.length : Int) = ((k + T + x.vs.length : Nat) : Int) := by omega
      try rw [ek]
      refine (markInts lo (k + T + x.vs.length) x.zs.length x.b x.cb _ _ (by omega) (by omega) hz1).mono ?_
      rintro e w2 ⟨rfl, ho2, hg2⟩
      obtain ⟨hy, ht2, hb2⟩ := marked_in HX.out hS ho1 hg1 ho2 hg2
      have HF := Lib.hid (HST.out w2 ht2 hy hb2)
      have hkT : ((k + T + x.vs.length + x.zs.length : Nat) : Int) = ((k + hpTotal (hs.take (j + 1)) : Nat) : Int) := by rw [HTOT.out, hm]; omega
      rw [hkT]
      clear ek hkT hy ht2 hb2 ho1 ho2 hg1 hg2 hz1 hxv hxz hap d1 hkm
      go_wp2
      go_roundw
      case rel => exact ⟨j + 1, by omega, by go_num, rfl, HF.out.1, HF.out.2⟩
      case measure => simp [intOf]; omega
    · have hj' : j = hs.length := by omega
      subst hj'
      rw [List.take_length] at *
      rw [curM_full] at hin
      have HE := Lib.hid (show MarkedHeaps lo k hs w (.returned (.int .i64 ((k + hpTotal hs : Nat) : Int))) wr from ⟨rfl, hin, ht⟩)
      clear hin ht
      go_wp2
      go_ret
      exact HE.out

theorem markHp_at (k : Nat) : ∀ (hs : List Hp) (j : Nat) (h : j < hs.length), (markHps k hs)[j]'(by rw [markHps_length]; exact h) = markHp (k + hpTotal (hs.take j)) hs[j]
  | x :: hs, 0, _ => by simp [markHps, hpTotal]
  | x :: hs, j + 1, h => by
    have h' : j < hs.length := by simpa using h
    have := markHp_at (k + hpSize x) hs j h'
    simp only [markHps, List.getElem_cons_succ, List.take_succ_cons]
    rw [this, hpTotal_cons, Nat.add_assoc]

end Go.Proofs.YtpmmjaceehlpiaaGreatDoor
/-
  Pure: what a statement makes of a valid heap is a valid heap: no action lays a ring.
-/
namespace Go.Proofs.YtpmmjaceehlpiaaGreatDoor
open Go Go.RowKit

/-- From c it is r steps to null. -/
def EndsIn (zs : List Int) : Nat → Int → Prop
  | 0, c => c = -1
  | n + 1, c => isC zs c = true ∧ EndsIn zs n (nextC zs c)
def Ends (zs : List Int) (c : Int) : Prop := ∃ r, EndsIn zs r c
theorem Ends.stop {zs : List Int} : Ends zs (-1) := ⟨0, rfl⟩
theorem Ends.step {zs : List Int} {c : Int} (h : isC zs c = true) (k : Ends zs (nextC zs c)) : Ends zs c := k.elim fun r hr => ⟨r + 1, h, hr⟩
theorem endsIn_one {zs : List Int} : ∀ {r s : Nat} {c : Int}, EndsIn zs r c → EndsIn zs s c → r = s
  | 0, 0, _, _, _ => rfl
  | 0, s + 1, c, h, k => by
    obtain rfl : c = -1 := h
    have := k.1
    rw [isC_minus] at this
    cases this
  | r + 1, 0, c, h, k => by
    obtain rfl : c = -1 := k
    have := h.1
    rw [isC_minus] at this
    cases this
  | r + 1, s + 1, _, h, k => by rw [endsIn_one h.2 k.2]
theorem ends_of_acyc {zs : List Int} (ha : acyc zs = true) {c : Int} (h : c = -1 ∨ isC zs c = true) : Ends zs c := by
  rcases h with rfl | h
  · exact Ends.stop
  · obtain ⟨k, rfl, hk⟩ := isC_nat h
    refine Classical.byContradiction fun hno => ?_
    have h1 := List.all_eq_true.1 ha (k : Int) (upTo_mem.2 (by omega))
    unfold acycAt at h1
    split at h1
    · cases h1
    · rename_i x hx
      have hmem : x ∈ followed zs (k : Int) := List.mem_of_getLast? hx
      have hch : x ∈ chain zs zs.length (k : Int) := by
        unfold followed at hmem
        split at hmem
        · cases hmem
        · simpa using addAll_mem.1 hmem
      have hq := chain_all (Q := fun y => ¬ Ends zs y) (fun y hy hn _ he => hn (Ends.step hy he)) (fun _ => hno) hch
      have hn : nextC zs x = -1 := of_decide_eq_true h1
      exact hq (Ends.step (chain_cells hch) (by rw [hn]; exact Ends.stop))
theorem addAll_new : ∀ {l o : List Int}, l.Nodup → (∀ x ∈ l, x ∉ o) → addAll o l = o ++ l
  | [], o, _, _ => by simp [addAll]
  | c :: cs, o, hn, hno => by
    have hc := hno c (by simp)
    rw [List.nodup_cons] at hn
    rw [addAll, if_neg hc, addAll_new hn.2 (fun x hx hm => by
      rcases List.mem_append.1 hm with hm | hm
      · exact hno x (by simp [hx]) hm
      · obtain rfl : x = c := by simpa using hm
        exact hn.1 hx)]
    simp
/-- The way to null: each cell once, the last one's next is null. -/
theorem chain_ends {zs : List Int} : ∀ {r n : Nat} {c : Int}, EndsIn zs (r + 1) c → r + 1 ≤ n → (chain zs n c).length = r + 1 ∧ (∃ l x, chain zs n c = l ++ [x] ∧ nextC zs x = -1) ∧ (chain zs n c).Nodup ∧ ∀ x ∈ chain zs n c, ∃ s, s ≤ r + 1 ∧ EndsIn zs s x
  | r, 0, _, _, hn => by omega
  | 0, n + 1, c, h, _ => by
    have hn : nextC zs c = -1 := h.2
    have hc : chain zs n (-1) = [] := by
      cases n with
      | zero => rfl
      | succ n => simp [chain, isC_minus]
    simp only [chain, h.1, if_true, hn, hc]
    exact ⟨rfl, ⟨[], c, rfl, hn⟩, by simp, fun x hx => have e : x = c := (by simpa using hx); ⟨1, Nat.le_refl _, e ▸ h⟩⟩
  | r + 1, n + 1, c, h, hn => by
    obtain ⟨h1, ⟨l, x, h2, h3⟩, h4, h5⟩ := chain_ends (n := n) h.2 (by omega)
    have h0 := h.1
    simp only [chain, h0, if_true]
    refine ⟨by rw [List.length_cons, h1], ⟨c :: l, x, by rw [h2]; rfl, h3⟩, ?_, fun y hy => ?_⟩
    · rw [List.nodup_cons]
      refine ⟨fun hm => ?_, h4⟩
      obtain ⟨s, hs, hE⟩ := h5 c hm
      have := endsIn_one hE h
      omega
    · rcases List.mem_cons.1 hy with rfl | hy
      · exact ⟨_, Nat.le_refl _, h⟩
      · obtain ⟨s, hs, hE⟩ := h5 y hy
        exact ⟨s, by omega, hE⟩
theorem acyc_of_ends {zs : List Int} (hg : goodB zs zs = true) (h : ∀ c, isC zs c = true → Ends zs c) : acyc zs = true := by
  rw [acyc, List.all_eq_true]
  intro k hk
  have hc : isC zs k = true := isC_iff.2 (upTo_mem.1 hk)
  obtain ⟨r, hr⟩ := h k hc
  cases r with
  | zero =>
    obtain rfl : k = -1 := hr
    rw [isC_minus] at hc
    cases hc
  | succ r =>
    obtain ⟨hl, _, hnd, _⟩ := chain_ends (n := r + 1) hr (Nat.le_refl _)
    have hle := nodup_cells hnd fun x hx => chain_cells hx
    obtain ⟨_, ⟨l, x, h2, h3⟩, hnd2, _⟩ := chain_ends (n := zs.length) hr (by omega)
    have hf : followed zs k = l ++ [x] := by
      rw [followed_good hg (.inr hc), addAll_new hnd2 (by simp), h2]
      rfl
    unfold acycAt
    rw [hf, List.getLast?_append]
    simp [h3]

theorem isC_len {zs ys : List Int} (h : zs.length = ys.length) (c : Int) : isC zs c = isC ys c := by simp [isC, h]
theorem set_next {zs : List Int} {k : Nat} (_hk : k < zs.length) (y : Int) {c : Int} (hc : isC zs c = true) : nextC (zs.set k y) c = if c = (k : Int) then y else nextC zs c := by
  obtain ⟨j, rfl, hj⟩ := isC_nat hc
  rw [nextC_at (by rw [List.length_set]; exact hj), nextC_at hj, List.getElem_set]
  by_cases h : k = j
  · subst h
    rw [if_pos rfl, if_pos rfl]
  · rw [if_neg h, if_neg (by omega)]
/-- A cell's next is cut off. -/
theorem ends_cut {zs : List Int} {k : Nat} (hk : k < zs.length) : ∀ {r : Nat} {c : Int}, EndsIn zs r c → Ends (zs.set k (-1)) c
  | 0, c, h => by
    obtain rfl : c = -1 := h
    exact Ends.stop
  | r + 1, c, h => by
    refine Ends.step (by rw [isC_len (List.length_set)]; exact h.1) ?_
    rw [set_next hk _ h.1]
    split
    · exact Ends.stop
    · exact ends_cut hk h.2
/-- A cell k is linked to b, from which k is not met. -/
theorem ends_far {zs : List Int} {k : Nat} {b : Int} (hk : k < zs.length) : ∀ {r n : Nat} {c : Int}, EndsIn zs r c → r ≤ n → (k : Int) ∉ chain zs n c → Ends (zs.set k b) c
  | 0, _, c, h, _, _ => by
    obtain rfl : c = -1 := h
    exact Ends.stop
  | r + 1, 0, _, _, hn, _ => by omega
  | r + 1, n + 1, c, h, hn, hno => by
    have h0 := h.1
    simp only [chain, h0, if_true, List.mem_cons, not_or] at hno
    refine Ends.step (by rw [isC_len (List.length_set)]; exact h.1) ?_
    rw [set_next hk _ h.1, if_neg (Ne.symm hno.1)]
    exact ends_far hk h.2 (by omega) hno.2
theorem ends_link {zs : List Int} {k : Nat} {b : Int} (hk : k < zs.length) (hb : Ends (zs.set k b) b) : ∀ {r : Nat} {c : Int}, EndsIn zs r c → Ends (zs.set k b) c
  | 0, c, h => by
    obtain rfl : c = -1 := h
    exact Ends.stop
  | r + 1, c, h => by
    refine Ends.step (by rw [isC_len (List.length_set)]; exact h.1) ?_
    rw [set_next hk _ h.1]
    split
    · exact hb
    · exact ends_link hk hb h.2
/-- A cell more. -/
theorem ends_new {zs : List Int} : ∀ {r : Nat} {c : Int}, EndsIn zs r c → Ends (zs ++ [-1]) c
  | 0, c, h => by
    obtain rfl : c = -1 := h
    exact Ends.stop
  | r + 1, c, h => by
    have h0 := isC_iff.1 h.1
    obtain ⟨j, rfl, hj⟩ := isC_nat h.1
    refine Ends.step (isC_iff.2 ⟨h0.1, by simp; omega⟩) ?_
    rw [nextC_at (by simp; omega), List.getElem_append_left hj, ← nextC_at hj]
    exact ends_new h.2
/-- The canonical heap. -/
theorem ends_canon {vs zs : List Int} : ∀ {r : Nat} {c : Int}, EndsIn zs r c → c = -1 ∨ c ∈ order vs zs → Ends (canonN vs zs) (num (order vs zs) c)
  | 0, c, h, _ => by
    obtain rfl : c = -1 := h
    rw [num_minus (order_end vs zs).toOrdOk]
    exact Ends.stop
  | r + 1, c, h, hm => by
    rcases hm with rfl | hm
    · rw [num_minus (order_end vs zs).toOrdOk]
      exact Ends.stop
    · obtain ⟨h1, h2⟩ := canon_next hm
      refine Ends.step h1 ?_
      rw [h2]
      by_cases hc : isC zs (nextC zs c) = true
      · exact ends_canon h.2 (.inr ((order_end vs zs).closed c hm hc))
      · refine ends_canon h.2 (.inl ?_)
        have h3 := h.2
        cases r with
        | zero => exact h3
        | succ r => exact absurd h3.1 hc
/-- A cell without pointers to it is freed. -/
theorem low_cell {zs : List Int} {k : Nat} (hk : k < zs.length) {c : Int} (hc : isC zs c = true) (hne : c ≠ (k : Int)) : isC ((zs.eraseIdx k).map (lowC k)) (lowC k c) = true ∧ nextC ((zs.eraseIdx k).map (lowC k)) (lowC k c) = lowC k (nextC zs c) := by
  have hl : ((zs.eraseIdx k).map (lowC k)).length = zs.length - 1 := by rw [List.length_map, List.length_eraseIdx, if_pos hk]
  obtain ⟨j, rfl, hj⟩ := isC_nat hc
  by_cases h : k < j
  · have e : lowC k (j : Int) = ((j - 1 : Nat) : Int) := by
      unfold lowC
      rw [if_pos (by omega)]
      omega
    have hj' : j - 1 < ((zs.eraseIdx k).map (lowC k)).length := by omega
    rw [e]
    refine ⟨isC_of hj', ?_⟩
    rw [nextC_at hj', nextC_at hj, List.getElem_map, List.getElem_eraseIdx]
    rw [dif_neg (by omega)]
    congr 2
    omega
  · have e : lowC k (j : Int) = (j : Int) := by
      unfold lowC
      rw [if_neg (by omega)]
    have hj' : j < ((zs.eraseIdx k).map (lowC k)).length := by omega
    rw [e]
    refine ⟨isC_of hj', ?_⟩
    rw [nextC_at hj', nextC_at hj, List.getElem_map, List.getElem_eraseIdx, dif_pos (by omega)]
theorem ends_free {zs : List Int} {k : Nat} (hk : k < zs.length) (hno : (k : Int) ∉ zs) : ∀ {r : Nat} {c : Int}, EndsIn zs r c → c ≠ (k : Int) → Ends ((zs.eraseIdx k).map (lowC k)) (lowC k c)
  | 0, c, h, _ => by
    obtain rfl : c = -1 := h
    have : lowC k (-1) = -1 := if_neg (by omega)
    rw [this]
    exact Ends.stop
  | r + 1, c, h, hne => by
    obtain ⟨h1, h2⟩ := low_cell hk h.1 hne
    refine Ends.step h1 ?_
    rw [h2]
    refine ends_free hk hno h.2 fun e => hno ?_
    obtain ⟨j, rfl, hj⟩ := isC_nat h.1
    rw [nextC_at hj] at e
    rw [← e]
    exact List.getElem_mem hj

def Good (zs l : List Int) : Prop := ∀ x ∈ l, x = -1 ∨ isC zs x = true
theorem good_iff {zs l : List Int} : goodB zs l = true ↔ Good zs l := by
  simp [goodB, Good, List.all_eq_true]
theorem Good.set_ {zs l : List Int} (h : Good zs l) {k : Nat} {y : Int} (hy : y = -1 ∨ isC zs y = true) : Good zs (l.set k y) := fun x hx => by
  rcases List.mem_or_eq_of_mem_set hx with hx | rfl
  · exact h x hx
  · exact hy
theorem Good.len_ {zs ys l : List Int} (h : Good zs l) (e : zs.length = ys.length) : Good ys l := fun x hx => (h x hx).imp id fun h1 => by rw [← isC_len e]; exact h1
theorem Good.at_ {zs l : List Int} (h : Good zs l) {k : Nat} (hk : k < l.length) : l.getD k (-1) = -1 ∨ isC zs (l.getD k (-1)) = true := by
  have e : l.getD k (-1) = l[k] := by simp [hk]
  rw [e]
  exact h _ (List.getElem_mem hk)
/-- A heap that a statement makes, ahead of the leak. -/
structure Sound (n : Nat) (us ys : List Int) : Prop where
  len : us.length = n
  six : ys.length ≤ 6
  gv : Good ys us
  gz : Good ys ys
  ends : ∀ c, isC ys c = true → Ends ys c
theorem Sound.all {n : Nat} {us ys : List Int} (h : Sound n us ys) {c : Int} (hc : c = -1 ∨ isC ys c = true) : Ends ys c := by
  rcases hc with rfl | hc
  · exact Ends.stop
  · exact h.ends c hc
theorem Sound.setV {n : Nat} {us ys : List Int} (h : Sound n us ys) (k : Nat) {y : Int} (hy : y = -1 ∨ isC ys y = true) : Sound n (us.set k y) ys := ⟨by rw [List.length_set]; exact h.len, h.six, h.gv.set_ hy, h.gz, h.ends⟩
theorem Sound.setZ {n : Nat} {us ys : List Int} (h : Sound n us ys) {k : Nat} {y : Int} (hy : y = -1 ∨ isC ys y = true) (he : ∀ c, isC ys c = true → Ends (ys.set k y) c) : Sound n us (ys.set k y) :=
  ⟨h.len, by rw [List.length_set]; exact h.six, h.gv.len_ List.length_set.symm, (h.gz.set_ hy).len_ List.length_set.symm, fun c hc => he c (by rw [isC_len List.length_set.symm]; exact hc)⟩
theorem sound_of {n : Int} {vs zs : List Int} (h : heapB n vs zs = true) : Sound vs.length vs zs := by
  obtain ⟨_, h6, hgv, hgz, ha⟩ := heapB_parts h
  exact ⟨rfl, h6, good_iff.1 hgv, good_iff.1 hgz, fun c hc => ends_of_acyc ha (.inr hc)⟩
theorem sound_new {n : Nat} {us ys : List Int} (h : Sound n us ys) (k : Nat) (h6 : ys.length ≠ 6) : Sound n (us.set k (ys.length : Int)) (ys ++ [-1]) := by
  have hup : ∀ x, isC ys x = true → isC (ys ++ [-1]) x = true := fun x hx => by
    have := isC_iff.1 hx
    exact isC_iff.2 ⟨this.1, by simp; omega⟩
  have h6' := h.six
  refine ⟨by rw [List.length_set]; exact h.len, by simp; omega, ?_, ?_, fun c hc => ?_⟩
  · exact Good.set_ (fun x hx => (h.gv x hx).imp id (hup x)) (.inr (isC_iff.2 ⟨by omega, by simp; omega⟩))
  · intro x hx
    rcases List.mem_append.1 hx with hx | hx
    · exact (h.gz x hx).imp id (hup x)
    · exact .inl (by simpa using hx)
  · by_cases hold : isC ys c = true
    · obtain ⟨r, hr⟩ := h.ends c hold
      exact ends_new hr
    · obtain ⟨j, rfl, hj⟩ := isC_nat hc
      have hj' : j = ys.length := by
        have : ¬ j < ys.length := fun hl => hold (isC_of hl)
        simp at hj
        omega
      refine Ends.step hc ?_
      rw [nextC_at hj]
      have e : (ys ++ [-1])[j]'hj = -1 := by
        subst hj'
        simp
      rw [e]
      exact Ends.stop
theorem sound_free {n : Nat} {us ys : List Int} (h : Sound n us ys) {c : Nat} (hc : c < ys.length) {ws : List Int} (hws : Good ys ws) (hl : ws.length = n) (h1 : (c : Int) ∉ ws) (h2 : (c : Int) ∉ ys) : Sound n (ws.map (lowC c)) ((ys.eraseIdx c).map (lowC c)) := by
  have hm : lowC c (-1) = -1 := if_neg (by omega)
  have key : ∀ y : Int, (y = -1 ∨ isC ys y = true) → y ≠ (c : Int) → lowC c y = -1 ∨ isC ((ys.eraseIdx c).map (lowC c)) (lowC c y) = true := fun y hy hne => by
    rcases hy with rfl | hy
    · exact .inl hm
    · exact .inr (low_cell hc hy hne).1
  have hle : ((ys.eraseIdx c).map (lowC c)).length = ys.length - 1 := by rw [List.length_map, List.length_eraseIdx, if_pos hc]
  have h6 := h.six
  refine ⟨by rw [List.length_map]; exact hl, by omega, fun x hx => ?_, fun x hx => ?_, fun x hx => ?_⟩
  · obtain ⟨y, hy, rfl⟩ := List.mem_map.1 hx
    exact key y (hws y hy) (fun e => h1 (e ▸ hy))
  · obtain ⟨y, hy, rfl⟩ := List.mem_map.1 hx
    have hy := List.mem_of_mem_eraseIdx hy
    exact key y (h.gz y hy) (fun e => h2 (e ▸ hy))
  · obtain ⟨j, rfl, hj⟩ := isC_nat hx
    rw [hle] at hj
    by_cases hjc : j < c
    · have e : lowC c (j : Int) = (j : Int) := if_neg (by omega)
      obtain ⟨r, hr⟩ := h.ends (j : Int) (isC_of (by omega))
      rw [← e]
      exact ends_free hc h2 hr (by omega)
    · have e : lowC c ((j + 1 : Nat) : Int) = (j : Int) := by
        unfold lowC
        rw [if_pos (by omega)]
        omega
      obtain ⟨r, hr⟩ := h.ends ((j + 1 : Nat) : Int) (isC_of (by omega))
      rw [← e]
      exact ends_free hc h2 hr (by omega)
theorem act_inj {vs zs us ys : List Int} (h : ((0 : Int), vs, zs) = (0, us, ys)) : vs = us ∧ zs = ys := by
  injection h with _ h
  injection h with h1 h2
  exact ⟨h1, h2⟩
theorem bad_no {k : Int} {us ys : List Int} (hk : k ≠ 0) (h : badC k = (0, us, ys)) : False := hk (congrArg Prod.fst h)
theorem ite_parts {α : Type} {c : Prop} [Decidable c] {x y r : α} (h : (if c then x else y) = r) : (c ∧ x = r) ∨ (¬ c ∧ y = r) := by
  by_cases hc : c
  · exact .inl ⟨hc, by rwa [if_pos hc] at h⟩
  · exact .inr ⟨hc, by rwa [if_neg hc] at h⟩
set_option maxHeartbeats 800000 in
theorem do_sound {k : Int} {pa pb : Nat} {vs zs us ys : List Int} (h : Sound vs.length vs zs) (hpa : pa < vs.length) (hpb : pb < vs.length) (hd : doS k pa pb vs zs = (0, us, ys)) : Sound vs.length us ys := by
  have ga := h.gv.at_ hpa
  have gb := h.gv.at_ hpb
  generalize hx : vs.getD pa (-1) = x at *
  generalize hy : vs.getD pb (-1) = y at *
  unfold doS linkS freeS at hd
  rw [hx, hy] at hd
  rcases ite_parts hd with ⟨_, hd⟩ | ⟨_, hd⟩
  · obtain ⟨rfl, rfl⟩ := act_inj hd
    exact h
  rcases ite_parts hd with ⟨_, hd⟩ | ⟨_, hd⟩
  · obtain ⟨rfl, rfl⟩ := act_inj hd
    exact h.setV pa (.inl rfl)
  rcases ite_parts hd with ⟨_, hd⟩ | ⟨_, hd⟩
  · rcases ite_parts hd with ⟨_, hd⟩ | ⟨h6, hd⟩
    · exact (bad_no (by decide) hd).elim
    · obtain ⟨rfl, rfl⟩ := act_inj hd
      exact sound_new h pa h6
  rcases ite_parts hd with ⟨_, hd⟩ | ⟨_, hd⟩
  · obtain ⟨rfl, rfl⟩ := act_inj hd
    exact h.setV pa gb
  rcases ite_parts hd with ⟨_, hd⟩ | ⟨_, hd⟩
  · rcases ite_parts hd with ⟨_, hd⟩ | ⟨hne, hd⟩
    · exact (bad_no (by decide) hd).elim
    · obtain ⟨rfl, rfl⟩ := act_inj hd
      exact h.setV pa (nextC_good (good_iff.2 h.gz) (gb.resolve_left hne))
  rcases ite_parts hd with ⟨_, hd⟩ | ⟨_, hd⟩
  · rcases ite_parts hd with ⟨_, hd⟩ | ⟨hne, hd⟩
    · exact (bad_no (by decide) hd).elim
    · obtain ⟨rfl, rfl⟩ := act_inj hd
      obtain ⟨c, rfl, hc⟩ := isC_nat (ga.resolve_left hne)
      rw [Int.toNat_natCast]
      exact h.setZ (.inl rfl) fun d hd => (h.ends d hd).elim fun r hr => ends_cut hc hr
  rcases ite_parts hd with ⟨_, hd⟩ | ⟨_, hd⟩
  · rcases ite_parts hd with ⟨_, hd⟩ | ⟨hne, hd⟩
    · exact (bad_no (by decide) hd).elim
    · rcases ite_parts hd with ⟨_, hd⟩ | ⟨hno, hd⟩
      · exact (bad_no (by decide) hd).elim
      · obtain ⟨rfl, rfl⟩ := act_inj hd
        obtain ⟨c, rfl, hc⟩ := isC_nat (ga.resolve_left hne)
        rw [Int.toNat_natCast]
        have hb : Ends (zs.set c y) y := by
          obtain ⟨r, hr⟩ := h.all gb
          cases r with
          | zero =>
            obtain rfl : y = -1 := hr
            exact Ends.stop
          | succ r =>
            obtain ⟨hl, _, hnd, _⟩ := chain_ends (n := r + 1) hr (Nat.le_refl _)
            have hle := nodup_cells hnd fun x hx => chain_cells hx
            refine ends_far hc hr (n := zs.length) (by omega) fun hm => hno ?_
            rw [followed_good (good_iff.2 h.gz) gb]
            exact addAll_mem.2 (.inr hm)
        exact h.setZ gb fun d hd => (h.ends d hd).elim fun r hr => ends_link hc hb hr
  rcases ite_parts hd with ⟨_, hd⟩ | ⟨_, hd⟩
  · rcases ite_parts hd with ⟨_, hd⟩ | ⟨hne, hd⟩
    · exact (bad_no (by decide) hd).elim
    · rcases ite_parts hd with ⟨_, hd⟩ | ⟨hno, hd⟩
      · exact (bad_no (by decide) hd).elim
      · obtain ⟨rfl, rfl⟩ := act_inj hd
        obtain ⟨c, rfl, hc⟩ := isC_nat (ga.resolve_left hne)
        rw [Int.toNat_natCast]
        exact sound_free h hc (h.gv.set_ (.inl rfl)) List.length_set (fun e => hno (.inl e)) (fun e => hno (.inr e))
  have two : ∀ {c : Prop} [Decidable c] {u v : Act3}, (if c then u else v) = (0, us, ys) → (u = (0, us, ys) → Sound vs.length us ys) → (v = (0, us, ys) → Sound vs.length us ys) → Sound vs.length us ys := fun e f g => by
    rcases ite_parts e with ⟨_, e⟩ | ⟨_, e⟩
    · exact f e
    · exact g e
  have ok : ((0 : Int), vs, zs) = (0, us, ys) → Sound vs.length us ys := fun e => by
    obtain ⟨rfl, rfl⟩ := act_inj e
    exact h
  have no : badC 1 = (0, us, ys) → Sound vs.length us ys := fun e => (bad_no (by decide) e).elim
  exact two hd (fun e => two e ok no) fun e => two e (fun e => two e no ok) fun e => two e (fun e => two e ok no) fun e => two e no ok
/-- The answer is a valid heap. -/
theorem canon_heap {n : Nat} {us ys : List Int} (h : Sound n us ys) (hn : 1 ≤ n ∧ n ≤ 4) : heapB (n : Int) (canonVs us ys) (canonNs us ys) = true := by
  have hg : goodH us ys = true := by rw [goodH, good_iff.2 h.gv, good_iff.2 h.gz]; rfl
  have hO := order_end us ys
  have hcg := canon_good us ys
  have hl : (canonN us ys).length = (order us ys).length := by simp [canonN]
  have hle := hO.len
  have h6 := h.six
  have hlen := h.len
  rw [canonVs, canonNs, if_pos hg, if_pos hg]
  simp only [heapB, Bool.and_eq_true, decide_eq_true_eq]
  refine ⟨⟨⟨⟨by omega, by omega, by simp [canonV, hlen], by omega⟩, hcg⟩, ?_⟩, order_canon us ys⟩
  refine acyc_of_ends (goodH_parts hcg).2 fun c hc => ?_
  obtain ⟨j, rfl, hj⟩ := isC_nat hc
  rw [hl] at hj
  have hm : (order us ys)[j] ∈ order us ys := List.getElem_mem hj
  obtain ⟨r, hr⟩ := h.ends _ (hO.cells _ hm)
  have := ends_canon (vs := us) hr (.inr hm)
  rwa [num_at hO.nodup hj] at this
end Go.Proofs.YtpmmjaceehlpiaaGreatDoor
/-
  Runs and the states that can be reached, in plain words: following edges, the list of states, and that a run ends in one of the list.
-/
namespace Go.Proofs.YtpmmjaceehlpiaaGreatDoor
open Go Go.RowKit

abbrev Sb := Int × (List Int × List Int)
def putS (l : List Sb) (x : Sb) : List Sb := if x ∈ l then l else l ++ [x]
/-- An edge that can be followed at a point. -/
def hasEdge (es : List Ed) (p e : Int) : Bool := (decide (0 ≤ e) && decide (e ≤ (es.length : Int) - 1)) && decide ((es.getD e.toNat ⟨0, 0, 0, ⟨#[]⟩, ⟨#[]⟩⟩).f = p)
def edgeAt (es : List Ed) (e : Int) : Ed := es.getD e.toNat ⟨0, 0, 0, ⟨#[]⟩, ⟨#[]⟩⟩
/-- Following edges from a state on: the state at the end, the code, the number of edges. -/
def followS (ss : List ByteArray) (es : List Ed) : Sb → Int → List Int → Sb × Int × Int
  | st, k, [] => (st, 0, k)
  | st, k, e :: r => if hasEdge es st.1 e = true then
      (if (execS ss (edgeAt es e).k (edgeAt es e).a (edgeAt es e).b st.2.1 st.2.2).1 = 0 then followS ss es ((edgeAt es e).t, (execS ss (edgeAt es e).k (edgeAt es e).a (edgeAt es e).b st.2.1 st.2.2).2) (k + 1) r
       else (st, (execS ss (edgeAt es e).k (edgeAt es e).a (edgeAt es e).b st.2.1 st.2.2).1, k))
    else (st, 7, k)
def follow0 (ss : List ByteArray) (n : Int) (es : List Ed) (vs zs edges : List Int) : Sb × Int × Int :=
  if progB ss n es = true ∧ heapB (ss.length : Int) vs zs = true then followS ss es (0, (vs, zs)) 0 edges else ((0, ([], [])), 7, 0)

/-- Where an edge leads from a state. -/
def nextS (ss : List ByteArray) (es : List Ed) (st : Sb) (e : Int) : Int × Sb :=
  ((execS ss (edgeAt es e).k (edgeAt es e).a (edgeAt es e).b st.2.1 st.2.2).1, ((edgeAt es e).t, (execS ss (edgeAt es e).k (edgeAt es e).a (edgeAt es e).b st.2.1 st.2.2).2))
def stepS (ss : List ByteArray) (es : List Ed) (st : Sb) (l : List Sb) (e : Int) : List Sb := if (nextS ss es st e).1 = 0 then putS l (nextS ss es st e).2 else l
def edgesS (es : List Ed) (st : Sb) : List Int := posFrom st.1 0 (fromsOf es)
def addAfterS (ss : List ByteArray) (es : List Ed) (st : Sb) (l : List Sb) : List Sb := (edgesS es st).foldl (stepS ss es st) l
def noSb : Sb := (0, ([], []))
def roundS (ss : List ByteArray) (es : List Ed) (l : List Sb) (k : Nat) : List Sb := addAfterS ss es (l.getD k noSb) l
/-- The list of states, gone through from the k-th on. -/
def walkS (ss : List ByteArray) (es : List Ed) : Nat → Nat → List Sb → List Sb
  | 0, _, l => l
  | f + 1, k, l => if k < l.length ∧ l.length ≤ 200 then walkS ss es f (k + 1) (roundS ss es l k) else l
def startS (hs : List (List Int × List Int)) : List Sb := hs.foldl (fun l h => putS l (0, h)) []
def statesS (ss : List ByteArray) (n : Int) (es : List Ed) (hs : List (List Int × List Int)) : List Sb × Bool :=
  if progB ss n es = true ∧ hs.all (fun h => heapB (ss.length : Int) h.1 h.2) = true then
    (if (walkS ss es 201 0 (startS hs)).length ≤ 200 then (walkS ss es 201 0 (startS hs), true) else ([], false))
  else ([], false)

section
variable {ss : List ByteArray} {es : List Ed}
theorem putS_has (l : List Sb) (x : Sb) : x ∈ putS l x := by unfold putS; split <;> simp_all
theorem putS_keeps {l : List Sb} {x y : Sb} (h : y ∈ l) : y ∈ putS l x := by unfold putS; split <;> simp_all
theorem putS_pre (l : List Sb) (x : Sb) : ∃ r, putS l x = l ++ r := by
  unfold putS
  split
  · exact ⟨[], by simp⟩
  · exact ⟨_, rfl⟩
theorem putS_len (l : List Sb) (x : Sb) : l.length ≤ (putS l x).length ∧ (putS l x).length ≤ l.length + 1 := by unfold putS; split <;> simp
theorem putS_mem {l : List Sb} {x y : Sb} (h : y ∈ putS l x) : y ∈ l ∨ y = x := by
  unfold putS at h
  split at h
  · exact .inl h
  · simpa using h
theorem stepS_pre (st : Sb) (l : List Sb) (e : Int) : ∃ r, stepS ss es st l e = l ++ r := by
  unfold stepS
  split
  · exact putS_pre _ _
  · exact ⟨[], by simp⟩
theorem fold_pre (st : Sb) : ∀ (ls : List Int) (l : List Sb), ∃ r, ls.foldl (stepS ss es st) l = l ++ r
  | [], l => ⟨[], by simp⟩
  | e :: ls, l => by
    obtain ⟨r1, h1⟩ := stepS_pre (ss := ss) (es := es) st l e
    obtain ⟨r2, h2⟩ := fold_pre st ls (stepS ss es st l e)
    exact ⟨r1 ++ r2, by rw [List.foldl_cons, h2, h1, List.append_assoc]⟩
theorem fold_has (st : Sb) : ∀ (ls : List Int) (l : List Sb) (e : Int), e ∈ ls → (nextS ss es st e).1 = 0 → (nextS ss es st e).2 ∈ ls.foldl (stepS ss es st) l
  | x :: ls, l, e, he, h0 => by
    rw [List.foldl_cons]
    rcases List.mem_cons.1 he with rfl | he
    · obtain ⟨r, hr⟩ := fold_pre (ss := ss) (es := es) st ls (stepS ss es st l e)
      rw [hr]
      refine List.mem_append_left _ ?_
      rw [stepS, if_pos h0]
      exact putS_has _ _
    · exact fold_has st ls _ e he h0
theorem roundS_pre (l : List Sb) (k : Nat) : ∃ r, roundS ss es l k = l ++ r := fold_pre _ _ _
theorem getD_pre {l r : List Sb} {k : Nat} (h : k < l.length) : (l ++ r).getD k noSb = l.getD k noSb := by simp [List.getElem?_append_left h]
/-- The states before the k-th lead into the list. -/
def Shut (ss : List ByteArray) (es : List Ed) (l : List Sb) (k : Nat) : Prop := ∀ i, i < k → i < l.length → ∀ e ∈ edgesS es (l.getD i noSb), (nextS ss es (l.getD i noSb) e).1 = 0 → (nextS ss es (l.getD i noSb) e).2 ∈ l
theorem Shut.round {l : List Sb} {k : Nat} (h : Shut ss es l k) (hk : k < l.length) : Shut ss es (roundS ss es l k) (k + 1) := by
  obtain ⟨r, hr⟩ := roundS_pre (ss := ss) (es := es) l k
  intro i hi hil e he h0
  have hil' : i < l.length := by omega
  rw [hr, getD_pre hil'] at he h0 ⊢
  rcases Nat.lt_or_ge i k with hlt | hge
  · exact List.mem_append_left _ (h i hlt hil' e he h0)
  · obtain rfl : i = k := by omega
    rw [← hr]
    exact fold_has _ _ _ e he h0
theorem walk_shut : ∀ (f k : Nat) (l : List Sb), Shut ss es l k → 201 ≤ f + k → (walkS ss es f k l).length ≤ 200 → Shut ss es (walkS ss es f k l) (walkS ss es f k l).length
  | 0, k, l, h, hf, hl => fun i _ hil => h i (by simp only [walkS] at hil hl; omega) hil
  | f + 1, k, l, h, hf, hl => by
    rw [walkS] at hl ⊢
    by_cases hc : k < l.length ∧ l.length ≤ 200
    · rw [if_pos hc] at hl ⊢
      exact walk_shut f (k + 1) _ (h.round hc.1) (by omega) hl
    · rw [if_neg hc] at hl ⊢
      exact fun i _ hil => h i (by omega) hil
theorem walk_pre : ∀ (f k : Nat) (l : List Sb), ∃ r, walkS ss es f k l = l ++ r
  | 0, k, l => ⟨[], by simp [walkS]⟩
  | f + 1, k, l => by
    rw [walkS]
    split
    · obtain ⟨r1, h1⟩ := roundS_pre (ss := ss) (es := es) l k
      obtain ⟨r2, h2⟩ := walk_pre f (k + 1) (roundS ss es l k)
      exact ⟨r1 ++ r2, by rw [h2, h1, List.append_assoc]⟩
    · exact ⟨[], by simp⟩
theorem mem_edges {st : Sb} {e : Int} (h : hasEdge es st.1 e = true) : e ∈ edgesS es st := by
  simp only [hasEdge, Bool.and_eq_true, decide_eq_true_eq] at h
  obtain ⟨⟨h1, h2⟩, h3⟩ := h
  have hl : e.toNat < (fromsOf es).length := by rw [fromsOf_length]; omega
  have hl' : e.toNat < es.length := by omega
  have := posFrom_has (n := st.1) (fromsOf es) 0 e.toNat hl (by
    rw [fromsOf_at es _ hl' hl]
    simpa [hl'] using h3)
  rw [Nat.zero_add] at this
  rw [show e = ((e.toNat : Nat) : Int) by omega]
  exact this
where posFrom_has {n : Int} : ∀ (zs : List Int) (k j : Nat) (h : j < zs.length), zs[j] = n → (((k + j : Nat)) : Int) ∈ posFrom n k zs
  | z :: zs, k, 0, _, e => by
    simp only [List.getElem_cons_zero] at e
    rw [posFrom, if_pos e]
    simp
  | z :: zs, k, j + 1, h, e => by
    have h1 := posFrom_has zs (k + 1) j (by simpa using h) (by simpa using e)
    rw [show k + 1 + j = k + (j + 1) by omega] at h1
    rw [posFrom]
    split
    · exact List.mem_cons_of_mem _ h1
    · exact h1
theorem edges_has {st : Sb} {e : Int} (h : e ∈ edgesS es st) : hasEdge es st.1 e = true := by
  obtain ⟨j, he, hj, hn⟩ := posFrom_mem st.1 (fromsOf es) 0 e h
  rw [Nat.zero_add] at he
  subst he
  rw [fromsOf_length] at hj
  rw [fromsOf_at es j hj] at hn
  simp only [hasEdge, Bool.and_eq_true, decide_eq_true_eq]
  refine ⟨⟨by omega, by omega⟩, ?_⟩
  simp [hj, hn]
/-- A list that every edge keeps has the ends of all runs that begin in it. -/
theorem follow_in {l : List Sb} (h : Shut ss es l l.length) : ∀ (ls : List Int) (st : Sb) (k : Int), st ∈ l → (followS ss es st k ls).1 ∈ l
  | [], st, k, hs => hs
  | e :: ls, st, k, hs => by
    rw [followS]
    split
    · next he =>
      split
      · next h0 =>
        refine follow_in h ls _ (k + 1) ?_
        obtain ⟨i, hi, rfl⟩ := List.getElem_of_mem hs
        have hg : l.getD i noSb = l[i] := by simp [hi]
        have h1 := h i hi hi e
        rw [hg] at h1
        exact h1 (mem_edges he) h0
      · exact hs
    · exact hs
theorem startS_one (h : List Int × List Int) : startS [h] = [(0, h)] := by simp [startS, putS]
/-- A run ends in one of the states that can be reached. -/
theorem run_reached {n : Int} {vs zs edges : List Int} (hp : progB ss n es = true) (hh : heapB (ss.length : Int) vs zs = true) (h : (statesS ss n es [(vs, zs)]).2 = true) : (follow0 ss n es vs zs edges).1 ∈ (statesS ss n es [(vs, zs)]).1 := by
  have ha : progB ss n es = true ∧ ([(vs, zs)] : List (List Int × List Int)).all (fun h => heapB (ss.length : Int) h.1 h.2) = true := ⟨hp, by simp [hh]⟩
  rw [follow0, if_pos ⟨hp, hh⟩]
  rw [statesS, if_pos ha] at h ⊢
  by_cases hl : (walkS ss es 201 0 (startS [(vs, zs)])).length ≤ 200
  · rw [if_pos hl] at h ⊢
    refine follow_in (walk_shut 201 0 _ (fun i hi => by omega) (by omega) hl) _ _ _ ?_
    obtain ⟨r, hr⟩ := walk_pre (ss := ss) (es := es) 201 0 (startS [(vs, zs)])
    rw [hr, startS_one]
    simp
  · rw [if_neg hl] at h
    cases h

/-- What is known of every state of the list: its heap is one. -/
def Heapy (n : Int) (l : List Sb) : Prop := ∀ x ∈ l, heapB n x.2.1 x.2.2 = true
end
end Go.Proofs.YtpmmjaceehlpiaaGreatDoor
/-
  States: a point and a heap; rows of states. The law's copy, size guard, comparison of a state; its comparison of two rows of states.
-/
namespace Go.Proofs.YtpmmjaceehlpiaaGreatDoor
open Go Go.RowKit

structure Sp where
  p : Int
  h : Hp
def Sp.body (x : Sp) : Int × (List Int × List Int) := (x.p, x.h.body)
abbrev spC (p : Int) (a : Option Addr) (n ca : Nat) (b : Option Addr) (m cb : Nat) : Value := .agg #[.int .i64 p, .slice a n ca, .slice b m cb]
def spCells (x : Sp) : List Value := [.int .i64 x.p, .slice x.h.a x.h.vs.length x.h.ca, .slice x.h.b x.h.zs.length x.h.cb]
theorem spCells_length (x : Sp) : (spCells x).length = 3 := rfl
abbrev spVals (ss : List Sp) : List Value := fl spCells ss
/-- A row of states that may be read. -/
structure StatesAt (W : World) (a : Option Addr) (ss : List Sp) : Prop where
  row : Row W W.heap.size a (spVals ss)
  each : ∀ x ∈ ss, x.h.At W
theorem StatesAt.below {W W' : World} {a : Option Addr} {ss : List Sp} (h : StatesAt W a ss) (hb : Below W.heap.size W W') : StatesAt W' a ss :=
  ⟨(h.row.below hb).grow hb.size, fun x hx => (h.each x hx).below hb⟩
theorem StatesAt.item {W : World} {a : Option Addr} {ss : List Sp} (h : StatesAt W a ss) (k : Nat) (hk : k < ss.length) :
    ∃ b o, a = some ⟨b, o, none⟩ ∧ b < W.heap.size ∧ W.cell? ⟨b, o + k * 3, none⟩ = some (.int .i64 ss[k].p) ∧ W.cell? ⟨b, o + k * 3 + 1, none⟩ = some (.slice ss[k].h.a ss[k].h.vs.length ss[k].h.ca) ∧
      W.cell? ⟨b, o + k * 3 + 2, none⟩ = some (.slice ss[k].h.b ss[k].h.zs.length ss[k].h.cb) ∧ ss[k].h.At W := by
  obtain ⟨b, o, rfl, hb, hc⟩ := Row.item spCells_length (by omega) h.row k hk
  exact ⟨b, o, rfl, hb, hc 0 _ rfl, by rw [Nat.add_assoc]; exact hc 1 _ rfl, by rw [Nat.add_assoc]; exact hc 2 _ rfl, h.each _ (List.getElem_mem hk)⟩

set_option maxHeartbeats 800000 in
theorem eqStates (p : Int) (a b c d : Option Addr) (ca cb cc cd : Nat) (vs zs : List Int) (w : World) (hn : vs.length ≤ maxLen) (hm : zs.length ≤ maxLen) (h : HeapAt w a b vs zs) (h' : HeapAt w c d vs zs) :
    Calls Tryz.prog 27 #[spC p a vs.length ca b zs.length cb, spC p c vs.length cc d zs.length cd] w (GaveX (.bool true) w) := by
  have key : ∀ W, Below w.heap.size w W → HeapAt W a b vs zs ∧ HeapAt W c d vs zs := fun W hb => ⟨h.below hb (Nat.le_refl _), h'.below hb (Nat.le_refl _)⟩
  go_enter Tryz.func27, Tryz.ntmps27
  go_wp2_with fail
  have hb0 : ∀ u v t t', Below w.heap.size w ((w.alloc (.cells u t)).alloc (.cells v t')) := fun u v t t' => ((Below.refl _ _).alloc (Nat.le_refl _) _).alloc (by simp) _
  refine (eqHeaps a b c d ca cb cc cd vs zs _ hn hm (key _ (hb0 _ _ _ _)).1 (key _ (hb0 _ _ _ _)).2).mono ?_
  rintro e w1 ⟨rfl, hb1⟩
  have hB := (hb0 _ _ _ _).trans (hb1.mono (hb0 _ _ _ _).size)
  go_wp2
  go_ret
  exact ⟨rfl, hB⟩

set_option maxHeartbeats 800000 in
theorem eqStateRows (a b : Option Addr) (ca cb : Nat) (ss ts : List Sp) (w : World) (hn : ss.length ≤ maxLen) (hl : ∀ x ∈ ss, x.h.vs.length ≤ maxLen ∧ x.h.zs.length ≤ maxLen) (hbd : ts.map Sp.body = ss.map Sp.body) (ha : StatesAt w a ss) (hb : StatesAt w b ts) :
    Calls Tryz.prog 38 #[.slice a ss.length ca, .slice b ts.length cb] w (GaveX (.bool true) w) := by
  unfold maxLen at hn
  have hkl : ts.length = ss.length := by
    have h1 := congrArg List.length hbd
    simpa using h1
  rw [hkl]
  go_enter Tryz.func38, Tryz.ntmps38
  go_wp2
  go_loopw [5] (fun i wr => ∃ k : Nat, k ≤ ss.length ∧ i = .int .i64 k ∧ Below w.heap.size w wr) (fun i _ => ss.length - (intOf i).toNat)
  case atStart => exact ⟨0, Nat.zero_le _, rfl, Below.refl _ _⟩
  case round =>
    obtain ⟨k, hk, rfl, hbw⟩ := hrel
    by_cases hlt : k < ss.length
    · have hlk : k < ts.length := by omega
      obtain ⟨ba, oa, rfl, hba, _, _, _, _⟩ := ha.item k hlt
      obtain ⟨bb, ob, rfl, hbb, _, _, _, _⟩ := hb.item k hlk
      have hx := hl ss[k] (List.getElem_mem hlt)
      have he : ts[k].body = ss[k].body := by
        have h1 : (ts.map Sp.body)[k]? = (ss.map Sp.body)[k]? := by rw [hbd]
        simpa [hlt, hlk] using h1
      have hA := fun W h => (ha.below (W' := W) h).item k hlt
      have hB := fun W h => (hb.below (W' := W) h).item k hlk
      generalize ss[k] = x at *
      generalize ts[k] = y at *
      obtain ⟨yp, ya, yca, yb, ycb, yv, yz⟩ := y
      obtain ⟨xp, xa, xca, xb, xcb, xv, xz⟩ := x
      simp only [Sp.body, Hp.body, Prod.mk.injEq] at he
      obtain ⟨rfl, rfl, rfl⟩ := he
      have hS : ∀ W, Below w.heap.size w W → (W.cell? ⟨ba, oa + k * 3, none⟩ = some (.int .i64 yp) ∧ W.cell? ⟨ba, oa + k * 3 + 1, none⟩ = some (.slice xa yv.length xca) ∧ W.cell? ⟨ba, oa + k * 3 + 2, none⟩ = some (.slice xb yz.length xcb)) ∧ (W.cell? ⟨bb, ob + k * 3, none⟩ = some (.int .i64 yp) ∧ W.cell? ⟨bb, ob + k * 3 + 1, none⟩ = some (.slice ya yv.length yca) ∧ W.cell? ⟨bb, ob + k * 3 + 2, none⟩ = some (.slice yb yz.length ycb)) := by
        intro W h
        obtain ⟨b1, o1, e1, _, p0, p1, p2, _⟩ := hA W h
        obtain ⟨b2, o2, e2, _, q0, q1, q2, _⟩ := hB W h
        injection e1 with e1
        injection e1 with e1 e1' _
        injection e2 with e2
        injection e2 with e2 e2' _
        subst e1 e1' e2 e2'
        exact ⟨⟨p0, p1, p2⟩, q0, q1, q2⟩
      have hR : ∀ W, Below w.heap.size w W → HeapAt W xa xb yv yz ∧ HeapAt W ya yb yv yz := fun W h => by
        obtain ⟨_, _, _, _, _, _, _, p⟩ := hA W h
        obtain ⟨_, _, _, _, _, _, _, q⟩ := hB W h
        exact ⟨p, q⟩
      have HS := Lib.hid hS
      have HR := Lib.hid hR
      have HA := Lib.hid ha
      have HB := Lib.hid hb
      clear hA hB hS hR ha hb hbd
      go_wp2_with fail
      go_region_held3 (fun W => (W.cell? ⟨ba, oa + k * 3, none⟩ = some (.int .i64 yp) ∧ W.cell? ⟨ba, oa + k * 3 + 1, none⟩ = some (.slice xa yv.length xca) ∧ W.cell? ⟨ba, oa + k * 3 + 2, none⟩ = some (.slice xb yz.length xcb)) ∧ (W.cell? ⟨bb, ob + k * 3, none⟩ = some (.int .i64 yp) ∧ W.cell? ⟨bb, ob + k * 3 + 1, none⟩ = some (.slice ya yv.length yca) ∧ W.cell? ⟨bb, ob + k * 3 + 2, none⟩ = some (.slice yb yz.length ycb)))
        (first | with_reducible exact HS.out _ (Below.drew hbw) | with_reducible exact HS.out _ hB1)
        (first | (go_at_call 27; (with_reducible refine (eqStates yp xa xb ya yb xca xcb yca ycb yv yz _ hx.1 hx.2 (HR.out _ (Below.drew hbw)).1 (HR.out _ (Below.drew hbw)).2).mono ?_); rintro e w1 ⟨rfl, hb1⟩; have hB1 := (Below.drew hbw).trans (hb1.mono (Below.drew hbw).size)))
      go_wp2
      go_roundw
      case rel => exact ⟨k + 1, by omega, by go_num, hB1⟩
      case measure => simp [intOf]; omega
    · go_wp2
      go_ret
      exact ⟨rfl, hbw⟩
end Go.Proofs.YtpmmjaceehlpiaaGreatDoor
/-
  Pure: what Exec answers is a valid heap; of a test and its opposite exactly one lets the heap stay, the other blocks.
-/
namespace Go.Proofs.YtpmmjaceehlpiaaGreatDoor
open Go Go.RowKit

theorem place_lt {ss : List ByteArray} (a : ByteArray) (h : 1 ≤ ss.length) : (place ss a).toNat < ss.length := by
  by_cases h0 : 0 ≤ place ss a
  · have := place_in h0
    omega
  · omega
theorem exec_heap {ss : List ByteArray} {k : Int} {a b : ByteArray} {vs zs ps qs : List Int} (h : execS ss k a b vs zs = (0, ps, qs)) : heapB (ss.length : Int) ps qs = true := by
  unfold execS at h
  rcases ite_parts h with ⟨⟨_, h2⟩, h⟩ | ⟨_, h⟩
  · rcases ite_parts h with ⟨h0, h⟩ | ⟨h0, h⟩
    · rcases ite_parts h with ⟨_, h⟩ | ⟨_, h⟩
      · exact (bad_no (by decide) h).elim
      · obtain ⟨rfl, rfl⟩ := act_inj h
        obtain ⟨hv, _⟩ := heapB_parts h2
        have hl : vs.length = ss.length := by omega
        have hs := do_sound (k := k) (pa := (place ss a).toNat) (pb := (place ss b).toNat) (us := (doS k (place ss a).toNat (place ss b).toNat vs zs).2.1) (ys := (doS k (place ss a).toNat (place ss b).toNat vs zs).2.2) (sound_of h2) (by rw [hl]; exact place_lt a (by omega)) (by rw [hl]; exact place_lt b (by omega)) (Prod.ext h0 rfl)
        rw [hl] at hs
        exact canon_heap hs (by omega)
    · exact absurd (congrArg Prod.fst h) h0
  · exact (bad_no (by decide) h).elim
theorem exec_test {ss : List ByteArray} {k : Int} {a b : ByteArray} {vs zs : List Int} (h1 : stmtB ss k a b = true) (h2 : heapB (ss.length : Int) vs zs = true) (ht : isTestS k = true) :
    execS ss k a b vs zs = if testB k (vs.getD (place ss a).toNat (-1)) (vs.getD (place ss b).toNat (-1)) = true then (0, vs, zs) else badC 1 := by
  obtain ⟨c1, c2, hl⟩ := heap_stays h2
  by_cases hb : testB k (vs.getD (place ss a).toNat (-1)) (vs.getD (place ss b).toNat (-1)) = true
  · rw [if_pos hb, exec_ok h1 h2 (do_passed ht hb) hl, c1, c2]
  · rw [if_neg hb]
    exact exec_code h1 h2 (do_blocked ht (by simpa using hb)) (by decide)
theorem test_opp {k : Int} (ht : isTestS k = true) (x y : Int) : testB (oppS k) x y = !testB k x y := by
  rcases isTestS_four ht with rfl | rfl | rfl | rfl
  all_goals simp [testB, oppS]
theorem opp_test {k : Int} (ht : isTestS k = true) : isTestS (oppS k) = true := by
  rcases isTestS_four ht with rfl | rfl | rfl | rfl
  all_goals simp [oppS, isTestS]
theorem opp_stmt {ss : List ByteArray} {k : Int} {a b : ByteArray} (ht : isTestS k = true) : stmtB ss (oppS k) a b = stmtB ss k a b := by
  have e : namesN (oppS k) = namesN k := by
    rcases isTestS_four ht with rfl | rfl | rfl | rfl
    all_goals decide
  unfold stmtB
  rw [e]
end Go.Proofs.YtpmmjaceehlpiaaGreatDoor
