/-
  Which structures are structures: the program's walk and the model's.
-/
import Derived.Test.YtglcailcdcpadaaGreatDoorZ08
namespace Go.Proofs.YtglcailcdcpadaaGreatDoor
open Go Go.RowKit Go.ChangeShapes Go.WideShapes Go.ChangeAt

def allT (zs : List Int) : Bool := zs.all isT
theorem allT_bad {zs : List Int} {k : Nat} (hk : k < zs.length) (h : isT zs[k] = false) : allT zs = false := by
  cases ha : allT zs with
  | false => rfl
  | true =>
    have := List.all_eq_true.1 ha _ (List.getElem_mem hk)
    rw [h] at this
    cases this
theorem allT_all {zs : List Int} {k : Nat} (h : allT (zs.take k) = true) (hk : zs.length ≤ k) : allT zs = true := by rwa [List.take_of_length_le hk] at h
theorem allT_next {zs : List Int} {k : Nat} (h : allT (zs.take k) = true) (hk : k < zs.length) (hx : isT zs[k] = true) : allT (zs.take (k + 1)) = true := by
  rw [take_next zs k hk, allT, List.all_append]
  simp only [allT] at h
  simp [h, hx]
set_option maxHeartbeats 800000 in
theorem implAllTruths (a : Option Addr) (cap : Nat) (zs : List Int) (w : World) (hn : zs.length ≤ maxLen) (hrow : Row w w.heap.size a (intVals zs)) :
    Calls Tryz.prog 89 #[.slice a zs.length cap] w fun e w' => e = .returned (.bool (allT zs)) ∧ w' = w := by
  unfold maxLen at hn
  obtain ⟨r, hr⟩ : ∃ r, allT zs = r := ⟨_, rfl⟩
  rw [hr]
  have HR := Lib.hid hr
  clear hr
  go_enter Tryz.func89, Tryz.ntmps89
  go_wp2
  go_loopw [7] (fun i wr => ∃ k : Nat, k ≤ zs.length ∧ i = .int .i64 k ∧ allT (zs.take k) = true ∧ wr = w) (fun i _ => zs.length - (intOf i).toNat)
  case atStart => exact ⟨0, Nat.zero_le _, rfl, rfl, rfl⟩
  case round =>
    obtain ⟨k, hk, rfl, hno, rfl⟩ := hrel
    by_cases hlt : k < zs.length
    · obtain ⟨b, o, rfl, hbW, hc⟩ := hrow k (.int .i64 zs[k]) (intVals_at zs k hlt)
      have HBAD := Lib.hid (allT_bad hlt)
      have HNEXT := Lib.hid (allT_next hno hlt)
      generalize zs[k] = z at *
      clear hno
      go_wp2_with fail
      refine (implIsTruth z _).mono ?_
      rintro e w1 ⟨rfl, rfl⟩
      cases hz : isT z with
      | false =>
        have HE := Lib.hid (show r = false by rw [← HR.out]; exact HBAD.out hz)
        clear hz
        go_wp2
        go_ret
        exact ⟨by rw [HE.out]; rfl, rfl⟩
      | true =>
        have HE := Lib.hid (HNEXT.out hz)
        clear hz
        go_wp2
        go_roundw
        case rel => exact ⟨k + 1, by omega, by go_num, HE.out, trivial⟩
        case measure => simp [intOf]; omega
    · have HE := Lib.hid (show r = true by rw [← HR.out]; exact allT_all hno (by omega))
      clear hno
      go_wp2
      go_ret
      exact ⟨by rw [HE.out]; rfl, rfl⟩
set_option maxHeartbeats 800000 in
theorem specTruths (a : Option Addr) (cap : Nat) (zs : List Int) (w : World) (hn : zs.length ≤ maxLen) (hrow : Row w w.heap.size a (intVals zs)) :
    Calls Tryz.prog 46 #[.slice a zs.length cap] w fun e w' => e = .returned (.bool (allT zs)) ∧ w' = w := by
  unfold maxLen at hn
  obtain ⟨r, hr⟩ : ∃ r, allT zs = r := ⟨_, rfl⟩
  rw [hr]
  have HR := Lib.hid hr
  clear hr
  go_enter Tryz.func46, Tryz.ntmps46
  go_wp2
  go_loopw [3] (fun i wr => ∃ k : Nat, k ≤ zs.length ∧ i = .int .i64 k ∧ allT (zs.take k) = true ∧ wr = w) (fun i _ => zs.length - (intOf i).toNat)
  case atStart => exact ⟨0, Nat.zero_le _, rfl, rfl, rfl⟩
  case round =>
    obtain ⟨k, hk, rfl, hno, rfl⟩ := hrel
    by_cases hlt : k < zs.length
    · obtain ⟨b, o, rfl, hbW, hc⟩ := hrow k (.int .i64 zs[k]) (intVals_at zs k hlt)
      have HBAD := Lib.hid (allT_bad hlt)
      have HNEXT := Lib.hid (allT_next hno hlt)
      generalize zs[k] = z at *
      clear hno
      go_wp2_with fail
      refine (specIsTruth z _).mono ?_
      rintro e w1 ⟨rfl, rfl⟩
      cases hz : isT z with
      | false =>
        have HE := Lib.hid (show r = false by rw [← HR.out]; exact HBAD.out hz)
        clear hz
        go_wp2
        go_ret
        exact ⟨by rw [HE.out]; rfl, rfl⟩
      | true =>
        have HE := Lib.hid (HNEXT.out hz)
        clear hz
        go_wp2
        go_roundw
        case rel => exact ⟨k + 1, by omega, by go_num, HE.out, trivial⟩
        case measure => simp [intOf]; omega
    · have HE := Lib.hid (show r = true by rw [← HR.out]; exact allT_all hno (by omega))
      clear hno
      go_wp2
      go_ret
      exact ⟨by rw [HE.out]; rfl, rfl⟩

/-- What makes a node valid. -/
def ndB (v : Int) (b : NBody) : Bool := decide ((b.1.1.length : Int) = v) && decide ((b.1.2.length : Int) = v) && allT b.1.1 && allT b.1.2 && isT b.2.1 && (b.2.2 == 0 || b.2.2 == 1)
/-- What makes a structure. -/
def stB (v : Int) (s : SBody) : Bool := decide (1 ≤ v) && decide (v ≤ 4) && decide (s.1.length ≤ 10) && pairsB s.1.length s.2.length && s.1.all (ndB v) && allT s.2
theorem ndB_eq (v : Int) (x : Nd) : ndB v x.body = (decide ((x.h.vs.length : Int) = v) && decide ((x.h.zs.length : Int) = v) && allT x.h.vs && allT x.h.zs && isT x.s && (x.m == 0 || x.m == 1)) := rfl
set_option maxHeartbeats 3200000 in
theorem implIsValid (x : Lk) (v : Int) (w : World) (hx : x.n.h.vs.length ≤ maxLen ∧ x.n.h.zs.length ≤ maxLen ∧ x.es.length ≤ maxLen) (hat : x.n.h.At w) (her : Row w w.heap.size x.e (intVals x.es)) :
    Calls Tryz.prog 45 #[x.v, .int .i64 v] w (GaveX (.bool (ndB v x.n.body && allT x.es)) w) := by
  have HAT := Lib.hid (fun (W : World) (h : Below w.heap.size w W) => And.intro (hat.below h) ((her.below h).grow h.size))
  clear hat her
  obtain ⟨r, hr⟩ : ∃ r, (ndB v x.n.body && allT x.es) = r := ⟨_, rfl⟩
  rw [hr]
  have HR := Lib.hid (hr.symm.trans (congrArg (· && allT x.es) (ndB_eq v x.n)))
  clear hr
  obtain ⟨W0, hW0, hb0, hA0⟩ := one_boxL w [.slice x.n.h.a x.n.h.vs.length x.n.h.ca, .slice x.n.h.b x.n.h.zs.length x.n.h.cb, .int .i64 x.n.s, .int .i64 x.n.m, .slice x.e x.es.length x.ce] 71
  simp only [List.toArray] at hW0
  have c0 := hA0.c 0 _ rfl
  have c1 := hA0.c 1 _ rfl
  have c2 := hA0.c 2 _ rfl
  have c3 := hA0.c 3 _ rfl
  have c4 := hA0.c 4 _ rfl
  clear hA0
  cases h1 : ((x.n.h.vs.length : Int) != v) with
  | true =>
    have HE := Lib.hid (show r = false by rw [HR.out, decide_eq_false (bne_iff_ne.1 h1)]; simp)
    go_enter Tryz.func45, Tryz.ntmps45
    go_wp2
    go_ret
    exact ⟨by rw [HE.out]; rfl, hb0⟩
  | false =>
  cases h2 : ((x.n.h.zs.length : Int) != v) with
  | true =>
    have HE := Lib.hid (show r = false by rw [HR.out, decide_eq_false (bne_iff_ne.1 h2)]; simp)
    go_enter Tryz.func45, Tryz.ntmps45
    go_wp2
    go_ret
    exact ⟨by rw [HE.out]; rfl, hb0⟩
  | false =>
  have hv1 : decide ((x.n.h.vs.length : Int) = v) = true := by simpa using h1
  have hv2 : decide ((x.n.h.zs.length : Int) = v) = true := by simpa using h2
  by_cases hm : x.n.m = 0 ∨ x.n.m = 1
  · have hmb : (x.n.m == 0 || x.n.m == 1) = true := by rcases hm with h | h <;> simp [h]
    have HE := Lib.hid (show r = (allT x.n.h.vs && allT x.n.h.zs && isT x.n.s && allT x.es) by rw [HR.out, hv1, hv2, hmb]; simp)
    clear hv1 hv2 hmb
    have h34 : (x.n.m != 0) = false ∨ ((x.n.m != 0) = true ∧ (x.n.m != 1) = false) := by rcases hm with h | h <;> simp [h]
    clear hm
    rcases h34 with h3 | ⟨h3, h4⟩
    all_goals
      go_enter Tryz.func45, Tryz.ntmps45
      go_wp2_with fail
      clear hW0
      refine (implAllTruths x.n.h.a x.n.h.ca x.n.h.vs _ hx.1 (HAT.out _ hb0).1.v).mono ?_
      rintro e w1 ⟨rfl, rfl⟩
      cases t1 : allT x.n.h.vs with
      | false =>
        have HF := Lib.hid (show r = false by rw [HE.out, t1]; rfl)
        clear t1
        go_wp2
        go_ret
        exact ⟨by rw [HF.out]; rfl, hb0⟩
      | true =>
      go_wp2_with fail
      refine (implAllTruths x.n.h.b x.n.h.cb x.n.h.zs _ hx.2.1 (HAT.out _ hb0).1.z).mono ?_
      rintro e w1 ⟨rfl, rfl⟩
      cases t2 : allT x.n.h.zs with
      | false =>
        have HF := Lib.hid (show r = false by rw [HE.out, t1, t2]; rfl)
        clear t1 t2
        go_wp2
        go_ret
        exact ⟨by rw [HF.out]; rfl, hb0⟩
      | true =>
      go_wp2_with fail
      refine (implIsTruth x.n.s _).mono ?_
      rintro e w1 ⟨rfl, rfl⟩
      cases t3 : isT x.n.s with
      | false =>
        have HF := Lib.hid (show r = false by rw [HE.out, t1, t2, t3]; rfl)
        clear t1 t2 t3
        go_wp2
        go_ret
        exact ⟨by rw [HF.out]; rfl, hb0⟩
      | true =>
      have HF := Lib.hid (show r = allT x.es by rw [HE.out, t1, t2, t3]; rfl)
      clear t1 t2 t3
      go_wp2_with fail
      refine (implAllTruths x.e x.ce x.es _ hx.2.2 (HAT.out _ hb0).2).mono ?_
      rintro e w1 ⟨rfl, rfl⟩
      go_wp2
      go_ret
      exact ⟨by rw [HF.out]; rfl, hb0⟩
  · have hmb : (x.n.m == 0 || x.n.m == 1) = false := by
      simp only [not_or] at hm
      simp [hm.1, hm.2]
    have HE := Lib.hid (show r = false by rw [HR.out, hmb]; simp)
    have h3 : (x.n.m != 0) = true := bne_iff_ne.2 (fun h => hm (.inl h))
    have h4 : (x.n.m != 1) = true := bne_iff_ne.2 (fun h => hm (.inr h))
    clear hm hmb hv1 hv2
    go_enter Tryz.func45, Tryz.ntmps45
    go_wp2
    go_ret
    exact ⟨by rw [HE.out]; rfl, hb0⟩
def lkB (v : Int) (y : Lk) : Bool := ndB v y.n.body && allT y.es
theorem linksTo_get {x : St} {b o n k : Nat} (h : k < (linksTo x b o n).length) : (linksTo x b o n)[k] = linkAt x b o k := by simp [linksTo]
theorem links_all {x : St} {b o : Nat} (v : Int) (hlen : x.zs.length = x.ns.length * x.ns.length) : (linksTo x b o x.ns.length).all (lkB v) = (x.ns.all (fun y => ndB v y.body) && allT x.zs) := by
  rw [Bool.eq_iff_iff, Bool.and_eq_true, allT, List.all_eq_true, List.all_eq_true, List.all_eq_true]
  have hg : ∀ i (hi : i < x.ns.length), (linkAt x b o i).n = x.ns[i] := fun i hi => by show x.ns.getD i zeroNd = _; simp [hi]
  constructor
  · intro h
    have hi : ∀ i, i < x.ns.length → lkB v (linkAt x b o i) = true := fun i hi => h _ (List.mem_map.2 ⟨i, List.mem_range.2 hi, rfl⟩)
    refine ⟨fun y hy => ?_, fun z hz => ?_⟩
    · obtain ⟨i, hil, rfl⟩ := List.getElem_of_mem hy
      have := hi i hil
      unfold lkB at this
      rw [hg i hil, Bool.and_eq_true] at this
      exact this.1
    · obtain ⟨j, hj, rfl⟩ := List.getElem_of_mem hz
      have hn : 0 < x.ns.length := Nat.pos_of_ne_zero fun h0 => by rw [hlen, h0] at hj; simp at hj
      have hq : j / x.ns.length < x.ns.length := Nat.div_lt_of_lt_mul (by rw [← hlen]; exact hj)
      have hr : j % x.ns.length < x.ns.length := Nat.mod_lt _ hn
      have hd : j / x.ns.length * x.ns.length + j % x.ns.length = j := by rw [Nat.mul_comm]; exact Nat.div_add_mod j _
      have := hi _ hq
      unfold lkB at this
      rw [Bool.and_eq_true, allT, List.all_eq_true] at this
      refine this.2 _ ?_
      show x.zs[j] ∈ (x.zs.drop (j / x.ns.length * x.ns.length)).take x.ns.length
      refine List.mem_of_getElem? (i := j % x.ns.length) ?_
      rw [List.getElem?_take_of_lt hr, List.getElem?_drop, hd]
      exact List.getElem?_eq_getElem hj
  · rintro ⟨h1, h2⟩ y hy
    obtain ⟨i, hi, rfl⟩ := List.mem_map.1 hy
    have hil := List.mem_range.1 hi
    unfold lkB
    rw [hg i hil, Bool.and_eq_true]
    refine ⟨h1 _ (List.getElem_mem hil), ?_⟩
    rw [allT, List.all_eq_true]
    intro z hz
    exact h2 z (List.mem_of_mem_drop (List.mem_of_mem_take hz))
theorem stB_eq (v : Int) (x : St) : stB v x.body = (decide (1 ≤ v) && decide (v ≤ 4) && decide (x.ns.length ≤ 10) && pairsB x.ns.length x.zs.length && x.ns.all (fun y => ndB v y.body) && allT x.zs) := by
  unfold stB St.body
  rw [List.all_map, List.length_map]
  rfl
theorem all_bad {α : Type} {f : α → Bool} {xs : List α} {k : Nat} (hk : k < xs.length) (h : f xs[k] = false) : xs.all f = false := by
  cases ha : xs.all f with
  | false => rfl
  | true =>
    have := List.all_eq_true.1 ha _ (List.getElem_mem hk)
    rw [h] at this
    cases this
theorem all_next {α : Type} {f : α → Bool} {xs : List α} {k : Nat} (h : (xs.take k).all f = true) (hk : k < xs.length) (hx : f xs[k] = true) : (xs.take (k + 1)).all f = true := by
  rw [take_next xs k hk, List.all_append]
  simp [h, hx]
/-- The four tests ahead of the nodes. -/
def headB (v : Int) (n m : Nat) : Bool := decide (1 ≤ v) && decide (v ≤ 4) && decide (n ≤ 10) && pairsB n m
set_option maxRecDepth 100000 in
set_option maxHeartbeats 3200000 in
theorem implIsStructure_some (v : Int) (ba oa ca : Nat) (ns : List Nd) (b o cb : Nat) (zs : List Int) (r : Bool) (w : World) (hhead : headB v ns.length zs.length = true) (hr : r = (ns.all (fun y => ndB v y.body) && allT zs)) (hcap : zs.length ≤ cb)
    (hsm : ∀ y ∈ ns, y.h.vs.length ≤ 1048576 ∧ y.h.zs.length ≤ 1048576) (hat : St.At w ⟨some ⟨ba, oa, none⟩, ca, ns, some ⟨b, o, none⟩, cb, zs⟩) :
    Calls Tryz.prog 12 #[.int .i64 v, heV (some ⟨ba, oa, none⟩) ns.length ca (some ⟨b, o, none⟩) zs.length cb] w (GaveX (.bool r) w) := by
  unfold headB at hhead
  simp only [Bool.and_eq_true, decide_eq_true_eq, pairsB] at hhead
  obtain ⟨⟨⟨hv1, hv4⟩, hn10⟩, hlen⟩ := hhead
  have hzl : zs.length ≤ 100 := by rw [hlen]; exact Nat.mul_le_mul hn10 hn10
  have hnl : ns.length ≤ maxLen := by unfold maxLen; omega
  have hml : zs.length ≤ maxLen := by unfold maxLen; omega
  have HR := Lib.hid (hr.trans (links_all (x := ⟨some ⟨ba, oa, none⟩, ca, ns, some ⟨b, o, none⟩, cb, zs⟩) (b := b) (o := o) v hlen).symm)
  have hpt : pairsB ns.length zs.length = true := decide_eq_true hlen
  have HP := Lib.hid hpt
  have HLEN := Lib.hid hlen
  have HAT := Lib.hid (fun (W : World) (h : Below w.heap.size w W) => hat.below h)
  have HSM := Lib.hid hsm
  have HCAP := Lib.hid hcap
  clear hr hlen hat hsm hpt hcap
  go_enter Tryz.func12, Tryz.ntmps12
  go_wp2_with fail
  obtain ⟨W0, hW0, hb0, hs0, hA0⟩ := one_box2 w (.slice (some ⟨ba, oa, none⟩) ns.length ca) (.slice (some ⟨b, o, none⟩) zs.length cb) 27
  rw [hW0]
  clear hW0
  have HA := Lib.hid (fun (W : World) (h : Below W0.heap.size W0 W) => And.intro (hA0.keep hs0 h) (hb0.trans (h.mono hb0.size)))
  clear hA0
  refine (implAllPairs (some ⟨ba, oa, none⟩) (some ⟨b, o, none⟩) ca cb ns.length zs.length _ hnl hml).mono ?_
  rw [HP.out]
  rintro e w1 ⟨rfl, hb1⟩
  obtain ⟨⟨c0, c1⟩, hB1⟩ := HA.out _ hb1
  go_wp2_with fail
  refine (implLinks ba oa ca ns b o cb zs _ (by omega) (by omega) HCAP.out HLEN.out (HAT.out _ hB1)).mono ?_
  rintro e w2 ⟨va, vc, rfl, hown, hb2⟩
  have hrow := OwnIn.row (OwnIn.of hown)
  have hB2 := hB1.trans (hb2.mono hB1.size)
  have HROW := Lib.hid (fun (W : World) (h : Below w2.heap.size w2 W) => And.intro ((hrow.below h).grow h.size) (hB2.trans (h.mono hB2.size)))
  have hLL := linksTo_length ⟨some ⟨ba, oa, none⟩, ca, ns, some ⟨b, o, none⟩, cb, zs⟩ b o ns.length
  have HGET := Lib.hid (fun (k : Nat) (h : k < ns.length) (W : World) (hW : Below w2.heap.size w2 W) => And.intro (((HAT.out _ (HROW.out W hW).2).nodes.each _ (List.getElem_mem h))) (row_part (HAT.out _ (HROW.out W hW).2).next (k * ns.length) ns.length))
  clear hrow hown c0 c1 hb2 hB2
  go_wp2
  go_loopw [27] (fun i wr => ∃ k : Nat, k ≤ ns.length ∧ i = .int .i64 k ∧ ((linksTo ⟨some ⟨ba, oa, none⟩, ca, ns, some ⟨b, o, none⟩, cb, zs⟩ b o ns.length).take k).all (lkB v) = true ∧ Below w2.heap.size w2 wr) (fun i _ => ns.length - (intOf i).toNat)
  case atStart => exact ⟨0, Nat.zero_le _, rfl, rfl, Below.refl _ _⟩
  case round =>
    obtain ⟨k, hk, rfl, hall, hbw⟩ := hrel
    by_cases hlt : k < ns.length
    · have hkl : k < (linksTo ⟨some ⟨ba, oa, none⟩, ca, ns, some ⟨b, o, none⟩, cb, zs⟩ b o ns.length).length := by rw [hLL]; exact hlt
      obtain ⟨bv, ov, rfl, hbv, hc⟩ := Row.item lkCells_length (by omega) (HROW.out _ hbw).1 k hkl
      have HBAD := Lib.hid (all_bad (f := lkB v) hkl)
      have HNEXT := Lib.hid (all_next (f := lkB v) hall hkl)
      have hy1 := fun W hW => (HGET.out k hlt W hW)
      have hys := HSM.out _ (List.getElem_mem hlt)
      have e1 : (linkAt ⟨some ⟨ba, oa, none⟩, ca, ns, some ⟨b, o, none⟩, cb, zs⟩ b o k).n = ns[k] := by show ns.getD k zeroNd = _; simp [hlt]
      have e2 : (linkAt ⟨some ⟨ba, oa, none⟩, ca, ns, some ⟨b, o, none⟩, cb, zs⟩ b o k).e = some ⟨b, o + k * ns.length, none⟩ := rfl
      have e3 : (linkAt ⟨some ⟨ba, oa, none⟩, ca, ns, some ⟨b, o, none⟩, cb, zs⟩ b o k).es = (zs.drop (k * ns.length)).take ns.length := rfl
      rw [← e1, ← e2, ← e3] at hy1
      rw [← e1] at hys
      have hel : (linkAt ⟨some ⟨ba, oa, none⟩, ca, ns, some ⟨b, o, none⟩, cb, zs⟩ b o k).es.length ≤ 1048576 := by rw [e3, List.length_take]; omega
      rw [linksTo_get hkl] at hc HBAD HNEXT
      clear e1 e2 e3
      generalize linkAt ⟨some ⟨ba, oa, none⟩, ca, ns, some ⟨b, o, none⟩, cb, zs⟩ b o k = y at *
      have q0 := hc 0 _ rfl
      have q1 := hc 1 _ rfl
      have q2 := hc 2 _ rfl
      have q3 := hc 3 _ rfl
      have q4 := hc 4 _ rfl
      rw [Nat.add_zero] at q0
      rw [← Nat.add_assoc] at q1 q2 q3 q4
      have HY := Lib.hid hy1
      clear hc hall hy1
      go_wp2_with fail
      obtain ⟨W1, hW1, hb3, hbx⟩ := one_boxL wr [.slice y.n.h.a y.n.h.vs.length y.n.h.ca, .slice y.n.h.b y.n.h.zs.length y.n.h.cb, .int .i64 y.n.s, .int .i64 y.n.m, .slice y.e y.es.length y.ce] 71
      simp only [List.toArray] at hW1
      rw [hW1]
      clear hW1
      have hB3 := hbw.trans (hb3.mono hbw.size)
      refine (implIsValid y v _ (by unfold maxLen; omega) (HY.out _ hB3).1 (HY.out _ hB3).2).mono ?_
      rintro e w4 ⟨rfl, hb4⟩
      have hB4 := hB3.trans (hb4.mono hB3.size)
      clear q0 q1 q2 q3 q4 hbx
      cases hh : (ndB v y.n.body && allT y.es) with
      | false =>
        have HE := Lib.hid (show r = false by rw [HR.out]; exact HBAD.out hh)
        clear hh
        go_wp2
        go_ret
        exact ⟨by rw [HE.out]; rfl, (HROW.out _ hB4).2⟩
      | true =>
        have HE := Lib.hid (HNEXT.out hh)
        clear hh
        go_wp2
        go_roundw
        case rel => exact ⟨k + 1, by omega, by go_num, HE.out, hB4⟩
        case measure => simp [intOf]; omega
    · have HE := Lib.hid (show r = true by
        rw [HR.out]
        rw [List.take_of_length_le (by rw [hLL]; omega)] at hall
        exact hall)
      clear hall
      go_wp2
      go_ret
      exact ⟨by rw [HE.out]; rfl, (HROW.out _ hbw).2⟩
theorem stB_head {v : Int} {x : St} (h : headB v x.ns.length x.zs.length = false) : stB v x.body = false := by
  rw [stB_eq]
  unfold headB at h
  rw [h]
  rfl
theorem stB_rest {v : Int} {x : St} (h : headB v x.ns.length x.zs.length = true) : stB v x.body = (x.ns.all (fun y => ndB v y.body) && allT x.zs) := by
  rw [stB_eq]
  unfold headB at h
  rw [h, Bool.true_and]
set_option maxHeartbeats 1600000 in
theorem implIsStructure_bad (v : Int) (a : Option Addr) (ca : Nat) (n : Nat) (b : Option Addr) (cb m : Nat) (w : World) (hn : n ≤ 1048576) (hm : m ≤ 1048576) (h : headB v n m = false) :
    Calls Tryz.prog 12 #[.int .i64 v, heV a n ca b m cb] w (GaveX (.bool false) w) := by
  obtain ⟨W0, hW0, hb0, hs0, hA0⟩ := one_box2 w (.slice a n ca) (.slice b m cb) 27
  obtain ⟨c0, c1⟩ := hA0
  by_cases h1 : v < 1
  · clear h
    go_enter Tryz.func12, Tryz.ntmps12
    go_wp2_with fail
    try clear hW0
    go_ret
    exact ⟨rfl, hb0⟩
  by_cases h2 : 4 < v
  · clear h
    go_enter Tryz.func12, Tryz.ntmps12
    go_wp2_with fail
    try clear hW0
    go_ret
    exact ⟨rfl, hb0⟩
  by_cases h3 : 10 < n
  · clear h
    go_enter Tryz.func12, Tryz.ntmps12
    go_wp2_with fail
    try clear hW0
    go_ret
    exact ⟨rfl, hb0⟩
  have hp : pairsB n m = false := by
    unfold headB at h
    rw [decide_eq_true (by omega : 1 ≤ v), decide_eq_true (by omega : v ≤ 4), decide_eq_true (by omega : n ≤ 10)] at h
    exact h
  have HP := Lib.hid hp
  clear h hp
  go_enter Tryz.func12, Tryz.ntmps12
  go_wp2_with fail
  clear hW0
  refine (implAllPairs a b ca cb n m _ (by unfold maxLen; omega) (by unfold maxLen; omega)).mono ?_
  rw [HP.out]
  rintro e w1 ⟨rfl, hb1⟩
  have hB1 := hb0.trans (hb1.mono hb0.size)
  go_wp2
  go_ret
  exact ⟨rfl, hB1⟩
set_option maxHeartbeats 1600000 in
theorem implIsStructure_nil (v : Int) (a : Option Addr) (ca : Nat) (b : Option Addr) (cb : Nat) (zs : List Int) (w : World) (hm : zs.length ≤ 1048576) (h : headB v 0 zs.length = true) :
    Calls Tryz.prog 12 #[.int .i64 v, heV a 0 ca b zs.length cb] w (GaveX (.bool true) w) := by
  unfold headB at h
  simp only [Bool.and_eq_true, decide_eq_true_eq] at h
  obtain ⟨⟨⟨hv1, hv4⟩, _⟩, hp⟩ := h
  have HP := Lib.hid hp
  clear hp
  go_enter Tryz.func12, Tryz.ntmps12
  go_wp2_with fail
  obtain ⟨W0, hW0, hb0, hs0, hA0⟩ := one_box2 w (.slice a 0 ca) (.slice b zs.length cb) 27
  rw [hW0]
  clear hW0
  have HA := Lib.hid (fun (W : World) (h : Below W0.heap.size W0 W) => And.intro (hA0.keep hs0 h) (hb0.trans (h.mono hb0.size)))
  clear hA0
  refine (implAllPairs a b ca cb 0 zs.length _ (Nat.zero_le _) (by unfold maxLen; omega)).mono ?_
  rw [HP.out]
  rintro e w1 ⟨rfl, hb1⟩
  obtain ⟨⟨c0, c1⟩, hB1⟩ := HA.out _ hb1
  go_wp2_with fail
  refine (links_nil _ a ca b cb zs 0 0).mono ?_
  rintro e w2 ⟨va, vc, rfl, hown, hb2⟩
  have hB2 := hB1.trans (hb2.mono hB1.size)
  clear hown c0 c1
  simp only [List.length_nil]
  go_wp2
  go_loopw [27] (fun i wr => i = .int .i64 0 ∧ wr = w2) (fun _ _ => 0)
  case atStart => exact ⟨rfl, rfl⟩
  case round =>
    obtain ⟨rfl, rfl⟩ := hrel
    go_wp2
    go_ret
    exact ⟨rfl, hB2⟩
/-- The program's IsStructure. -/
theorem implIsStructure (v : Int) (x : St) (w : World) (h : Small x.body) (hcap : x.zs.length ≤ x.cb) (hat : x.At w) :
    Calls Tryz.prog 12 #[.int .i64 v, x.v] w (GaveX (.bool (stB v x.body)) w) := by
  have hn := h.n1
  have hz := h.z1
  have he := h.e1
  cases hh : headB v x.ns.length x.zs.length with
  | false =>
    rw [stB_head hh]
    exact implIsStructure_bad v _ _ _ _ _ _ w hn hz hh
  | true =>
    have hr := stB_rest hh
    obtain ⟨a, ca, ns, b, cb, zs⟩ := x
    simp only at hn hz he hh hr hcap
    have hlen : zs.length = ns.length * ns.length := by
      unfold headB pairsB at hh
      simp only [Bool.and_eq_true, decide_eq_true_eq] at hh
      exact hh.2
    cases ns with
    | nil =>
      have hz0 : zs = [] := List.eq_nil_of_length_eq_zero (by simpa using hlen)
      rw [hr, hz0]
      rw [hz0] at hh
      exact implIsStructure_nil v a ca b cb [] w (Nat.zero_le _) hh
    | cons y ys =>
      obtain ⟨ba, oa, ha, _, _, _⟩ := hat.nodes.item 0 (by simp)
      have h0 : 0 < zs.length := by rw [hlen]; simp
      obtain ⟨bb, ob, hb, _, _⟩ := hat.next 0 _ (intVals_at zs 0 h0)
      simp only at ha hb
      subst ha hb
      exact implIsStructure_some v ba oa ca (y :: ys) bb ob cb zs _ w hh hr hcap he hat

theorem specMany (m : Int) : (decide (0 ≤ m) && decide (m ≤ 1)) = (m == 0 || m == 1) := by
  rw [Bool.eq_iff_iff]
  simp only [Bool.and_eq_true, decide_eq_true_eq, Bool.or_eq_true, beq_iff_eq]
  omega
set_option maxRecDepth 100000 in
set_option maxHeartbeats 3200000 in
theorem specIsStructure (v : Int) (x : St) (w : World) (h : Small x.body) (hat : x.At w) :
    Calls Tryz.prog 13 #[.int .i64 v, x.v] w (GaveX (.bool (stB v x.body)) w) := by
  have hm := small_max h
  have hnl := h.n1
  have hzl := h.z1
  have hsm := h.e1
  have HAT := Lib.hid (fun (W : World) (h : Below w.heap.size w W) => hat.below h)
  obtain ⟨r, hr⟩ : ∃ r, stB v x.body = r := ⟨_, rfl⟩
  rw [hr]
  have HR := Lib.hid (hr.symm.trans (stB_eq v x))
  clear hr hat h
  have HMAX := Lib.hid hm
  clear hm
  have HNS : x.ns.all (fun y => ndB v y.body) = false → r = false := fun e => by rw [HR.out, e]; simp
  have HNS := Lib.hid HNS
  go_enter Tryz.func13, Tryz.ntmps13
  go_wp2_with fail
  obtain ⟨W0, hW0, hb0, hs0, hA0⟩ := one_box2 w (.slice x.a x.ns.length x.ca) (.slice x.b x.zs.length x.cb) 27
  rw [hW0]
  clear hW0
  have HA := Lib.hid (fun (W : World) (h : Below W0.heap.size W0 W) => And.intro (hA0.keep hs0 h) (hb0.trans (h.mono hb0.size)))
  obtain ⟨c0, c1⟩ := hA0
  go_wp2
  clear c0 c1
  go_loopw [6] (fun i wr => ∃ k : Nat, k ≤ x.ns.length ∧ i = .int .i64 k ∧ (x.ns.take k).all (fun y => ndB v y.body) = true ∧ Below W0.heap.size W0 wr) (fun i _ => x.ns.length - (intOf i).toNat)
  case atStart => exact ⟨0, Nat.zero_le _, rfl, rfl, Below.refl _ _⟩
  case round =>
    obtain ⟨k, hk, rfl, hall, hb⟩ := hrel
    obtain ⟨⟨d0, d1⟩, hB⟩ := HA.out _ hb
    by_cases hlt : k < x.ns.length
    · obtain ⟨b, o, ha, hbW, hitem, hx⟩ := (HAT.out _ hB).nodes.item k hlt
      have hxl := hsm _ (List.getElem_mem hlt)
      have HBAD := Lib.hid (fun e => HNS.out (all_bad (f := fun y : Nd => ndB v y.body) hlt e))
      have HNEXT := Lib.hid (all_next (f := fun y : Nd => ndB v y.body) hall hlt)
      generalize x.ns[k] = y at *
      obtain ⟨c0, c1, c2, c3⟩ := hitem
      have HND := Lib.hid (ndB_eq v y)
      have hmx : y.h.vs.length ≤ maxLen ∧ y.h.zs.length ≤ maxLen := by unfold maxLen; omega
      clear hall
      rw [ha] at d0
      clear ha
      obtain ⟨W1, hW1, hb1, hY⟩ := one_boxL wr [.slice y.h.a y.h.vs.length y.h.ca, .slice y.h.b y.h.zs.length y.h.cb, .int .i64 y.s, .int .i64 y.m] 56
      simp only [List.toArray] at hW1
      have hx1 := hx.below hb1
      have hB1 := hb.trans (hb1.mono hb.size)
      have hBB := (HA.out _ hB1).2
      have e0 := hY.c 0 _ rfl
      have e1 := hY.c 1 _ rfl
      have e2 := hY.c 2 _ rfl
      have e3 := hY.c 3 _ rfl
      have HN2 := Lib.hid (fun (e : ndB v y.body = true) => HNEXT.out e)
      clear hx hY
      cases t1 : ((y.h.vs.length : Int) != v) with
      | true =>
        have HE := Lib.hid (HBAD.out (by rw [HND.out, decide_eq_false (bne_iff_ne.1 t1)]; simp))
        go_wp2_with fail
        go_ret
        exact ⟨by rw [HE.out]; rfl, hBB⟩
      | false =>
      cases t2 : ((y.h.zs.length : Int) != v) with
      | true =>
        have HE := Lib.hid (HBAD.out (by rw [HND.out, decide_eq_false (bne_iff_ne.1 t2)]; simp))
        go_wp2_with fail
        go_ret
        exact ⟨by rw [HE.out]; rfl, hBB⟩
      | false =>
      have hv1 : decide ((y.h.vs.length : Int) = v) = true := by simpa using t1
      have hv2 : decide ((y.h.zs.length : Int) = v) = true := by simpa using t2
      have HN3 := Lib.hid (show ndB v y.body = (allT y.h.vs && allT y.h.zs && isT y.s && (y.m == 0 || y.m == 1)) by rw [HND.out, hv1, hv2]; rfl)
      clear hv1 hv2
      go_wp2_with fail
      clear hW1
      refine (specTruths y.h.a y.h.ca y.h.vs _ hmx.1 hx1.v).mono ?_
      rintro e w1 ⟨rfl, rfl⟩
      cases t3 : allT y.h.vs with
      | false =>
        have HE := Lib.hid (HBAD.out (by rw [HN3.out, t3]; rfl))
        clear t3
        go_wp2
        go_ret
        exact ⟨by rw [HE.out]; rfl, hBB⟩
      | true =>
      go_wp2_with fail
      refine (specTruths y.h.b y.h.cb y.h.zs _ hmx.2 hx1.z).mono ?_
      rintro e w1 ⟨rfl, rfl⟩
      cases t4 : allT y.h.zs with
      | false =>
        have HE := Lib.hid (HBAD.out (by rw [HN3.out, t3, t4]; rfl))
        clear t3 t4
        go_wp2
        go_ret
        exact ⟨by rw [HE.out]; rfl, hBB⟩
      | true =>
      go_wp2_with fail
      refine (specIsTruth y.s _).mono ?_
      rintro e w1 ⟨rfl, rfl⟩
      cases t5 : isT y.s with
      | false =>
        have HE := Lib.hid (HBAD.out (by rw [HN3.out, t3, t4, t5]; rfl))
        clear t3 t4 t5
        go_wp2
        go_ret
        exact ⟨by rw [HE.out]; rfl, hBB⟩
      | true =>
      go_wp2_with fail
      refine (specInT y.m 0 1 _).mono ?_
      rintro e w1 ⟨rfl, rfl⟩
      rw [specMany]
      cases t6 : (y.m == 0 || y.m == 1) with
      | false =>
        have HE := Lib.hid (HBAD.out (by rw [HN3.out, t3, t4, t5, t6]; rfl))
        clear t3 t4 t5 t6
        go_wp2
        go_ret
        exact ⟨by rw [HE.out]; rfl, hBB⟩
      | true =>
      have HE := Lib.hid (HN2.out (by rw [HN3.out, t3, t4, t5, t6]; rfl))
      clear t3 t4 t5 t6 c0 c1 c2 c3 e0 e1 e2 e3
      go_wp2
      go_roundw
      case rel => exact ⟨k + 1, by omega, by go_num, HE.out, hB1⟩
      case measure => simp [intOf]; omega
    · have hns : x.ns.all (fun y => ndB v y.body) = true := by rwa [List.take_of_length_le (by omega)] at hall
      have HQ := Lib.hid (show r = (decide (1 ≤ v) && decide (v ≤ 4) && decide (x.ns.length ≤ 10) && pairsB x.ns.length x.zs.length && allT x.zs) by rw [HR.out, hns, Bool.and_true])
      clear hall hns
      have hq : x.ns.length * x.ns.length ≤ 1048576 * 1048576 := Nat.mul_le_mul hnl hnl
      have en : (x.ns.length : Int) * (x.ns.length : Int) = ((x.ns.length * x.ns.length : Nat) : Int) := (Int.natCast_mul _ _).symm
      have hpp : pairsB x.ns.length x.zs.length = decide (x.zs.length = x.ns.length * x.ns.length) := rfl
      generalize x.ns.length * x.ns.length = q at *
      go_wp2_with fail
      refine (specInT v 1 4 _).mono ?_
      rintro e w1 ⟨rfl, rfl⟩
      cases t1 : (decide (1 ≤ v) && decide (v ≤ 4)) with
      | false =>
        have HE := Lib.hid (show r = false by rw [HQ.out, t1]; simp)
        clear t1
        go_wp2
        go_ret
        exact ⟨by rw [HE.out]; rfl, hB⟩
      | true =>
      by_cases h10 : x.ns.length ≤ 10
      · by_cases hl : x.zs.length = q
        · have HE := Lib.hid (show r = allT x.zs by rw [HQ.out, t1, decide_eq_true h10, hpp, decide_eq_true hl]; rfl)
          have hle : ((x.zs.length : Int) == (q : Int)) = true := beq_iff_eq.2 (by omega)
          clear t1 hl hpp
          go_wp2_with fail
          refine (specTruths x.b x.cb x.zs _ HMAX.out.2.1 (HAT.out _ hB).next).mono ?_
          rintro e w1 ⟨rfl, rfl⟩
          go_wp2
          go_ret
          exact ⟨by rw [HE.out]; rfl, hB⟩
        · have HE := Lib.hid (show r = false by rw [HQ.out, hpp, decide_eq_false hl]; simp)
          have hle : ((x.zs.length : Int) == (q : Int)) = false := beq_eq_false_iff_ne.2 (by omega)
          clear t1 hl hpp
          go_wp2
          go_ret
          exact ⟨by rw [HE.out]; rfl, hB⟩
      · have HE := Lib.hid (show r = false by rw [HQ.out, decide_eq_false h10]; simp)
        clear t1 hpp
        go_wp2
        go_ret
        exact ⟨by rw [HE.out]; rfl, hB⟩
end Go.Proofs.YtglcailcdcpadaaGreatDoor
