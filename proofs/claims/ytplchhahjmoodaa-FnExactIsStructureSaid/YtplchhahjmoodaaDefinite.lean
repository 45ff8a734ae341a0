/-
  Has a structure only known values: the program's walk and the model's.
-/
import Derived.Test.YtplchhahjmoodaaNodes
import Derived.Test.YtplchhahjmoodaaSpecHas
namespace Go.Proofs.Ytplchhahjmoodaa
open Go Go.RowKit

abbrev NBody := (List Int × List Int) × Int × Int
abbrev SBody := List NBody × List Int
def halfN (b : NBody) : Bool := decide (1 ∈ b.1.1) || decide (1 ∈ b.1.2) || b.2.1 == 1 || b.2.2 == 1
def definB (s : SBody) : Bool := !(s.1.any halfN) && !decide (1 ∈ s.2)
/-- The answer of the library's Index: not negative just where the number is there. -/
def FoundI (x : Int) (zs : List Int) (w : World) (e : Ending) (w' : World) : Prop := ∃ r : Int, e = .returned (.int .i64 r) ∧ (decide (0 ≤ r) = decide (x ∈ zs)) ∧ w' = w
set_option maxHeartbeats 800000 in
theorem libIndexI (a : Option Addr) (cap : Nat) (zs : List Int) (x : Int) (w : World) (hn : zs.length ≤ maxLen) (hrow : Row w w.heap.size a (intVals zs)) :
    Calls Try.prog 47 #[.slice a zs.length cap, .int .i64 x] w (FoundI x zs w) := by
  unfold maxLen at hn
  have HF := Lib.hid (fun (k : Nat) (h : k ≤ zs.length) (hno : x ∉ zs.take k) (he : k = zs.length) => show x ∉ zs by rw [he, List.take_length] at hno; exact hno)
  go_enter Try.func47, Try.ntmps47
  go_wp2
  go_loopw [8] (fun i wr => ∃ k : Nat, k ≤ zs.length ∧ i = .int .i64 k ∧ x ∉ zs.take k ∧ wr = w) (fun i _ => zs.length - (intOf i).toNat)
  case atStart => exact ⟨0, Nat.zero_le _, rfl, by simp, rfl⟩
  case round =>
    obtain ⟨k, hk, rfl, hno, rfl⟩ := hrel
    by_cases hlt : k < zs.length
    · obtain ⟨b, o, rfl, hbW, hc⟩ := hrow k (.int .i64 zs[k]) (intVals_at zs k hlt)
      have HN := Lib.hid hno
      clear hno
      by_cases he : x = zs[k]
      · have hd : (x == zs[k]) = true := beq_iff_eq.2 he
        have HE := Lib.hid (show decide (x ∈ zs) = true from decide_eq_true (by rw [he]; exact List.getElem_mem hlt))
        clear he
        go_wp2
        go_ret
        exact ⟨k, rfl, by rw [HE.out]; exact decide_eq_true (by omega), rfl⟩
      · have hd : (x == zs[k]) = false := beq_eq_false_iff_ne.2 he
        have HE := Lib.hid he
        clear he
        go_wp2
        go_roundw
        case rel => exact ⟨k + 1, by omega, by go_num, by rw [take_next zs k hlt]; simp only [List.mem_append, List.mem_singleton, not_or]; exact ⟨HN.out, HE.out⟩, trivial⟩
        case measure => simp [intOf]; omega
    · have HE := Lib.hid (show decide (x ∈ zs) = false from decide_eq_false (HF.out k hk hno (by omega)))
      clear hno
      go_wp2
      go_ret
      exact ⟨-1, rfl, by rw [HE.out]; rfl, rfl⟩
theorem libHasI (a : Option Addr) (cap : Nat) (zs : List Int) (x : Int) (w : World) (hn : zs.length ≤ maxLen) (hrow : Row w w.heap.size a (intVals zs)) :
    Calls Try.prog 34 #[.slice a zs.length cap, .int .i64 x] w fun e w' => e = .returned (.bool (decide (x ∈ zs))) ∧ w' = w := by
  go_enter Try.func34, Try.ntmps34
  go_wp2_with fail
  refine (libIndexI a cap zs x _ hn hrow).mono ?_
  rintro e w1 ⟨r, rfl, hr, rfl⟩
  have HR := Lib.hid hr
  clear hr
  go_wp2
  go_ret
  exact ⟨by rw [← HR.out]; rfl, rfl⟩
theorem or4 {a b c d : Bool} {r : Bool} (h : (a || b || c || d) = r) : r = (a || b || c || d) := h.symm
set_option maxHeartbeats 1600000 in
theorem implHasHalf (x : Nd) (w : World) (hv : x.h.vs.length ≤ maxLen) (hz : x.h.zs.length ≤ maxLen) (hat : x.h.At w) :
    Calls Try.prog 33 #[ndC x.h.a x.h.vs.length x.h.ca x.h.b x.h.zs.length x.h.cb x.s x.m] w (GaveX (.bool (halfN x.body)) w) := by
  have HAT := Lib.hid (fun (W : World) (h : Below w.heap.size w W) => hat.below h)
  clear hat
  obtain ⟨r, hr⟩ : ∃ r, halfN x.body = r := ⟨_, rfl⟩
  rw [hr]
  have hr2 : r = (decide (1 ∈ x.h.vs) || decide (1 ∈ x.h.zs) || x.s == 1 || x.m == 1) := hr.symm
  have HR := Lib.hid hr2
  clear hr hr2
  go_enter Try.func33, Try.ntmps33
  go_wp2_with fail
  obtain ⟨W0, hW0, hb0, hA0⟩ := one_boxL w [.slice x.h.a x.h.vs.length x.h.ca, .slice x.h.b x.h.zs.length x.h.cb, .int .i64 x.s, .int .i64 x.m] 42
  simp only [List.toArray] at hW0
  rw [hW0]
  clear hW0
  have c1 := hA0.c 1 _ rfl
  have c2 := hA0.c 2 _ rfl
  have c3 := hA0.c 3 _ rfl
  clear hA0
  refine (libHasI x.h.a x.h.ca x.h.vs 1 _ hv (HAT.out _ hb0).v).mono ?_
  rintro e w1 ⟨rfl, rfl⟩
  cases h1 : decide ((1 : Int) ∈ x.h.vs) with
  | true =>
    have HE := Lib.hid (show r = true by rw [HR.out, h1]; rfl)
    clear h1
    go_wp2
    go_ret
    exact ⟨by rw [HE.out]; rfl, hb0⟩
  | false =>
    go_wp2_with fail
    refine (libHasI x.h.b x.h.cb x.h.zs 1 _ hz (HAT.out _ hb0).z).mono ?_
    rintro e w1 ⟨rfl, rfl⟩
    cases h2 : decide ((1 : Int) ∈ x.h.zs) with
    | true =>
      have HE := Lib.hid (show r = true by rw [HR.out, h1, h2]; rfl)
      clear h1 h2
      go_wp2
      go_ret
      exact ⟨by rw [HE.out]; rfl, hb0⟩
    | false =>
      cases h3 : (x.s == 1) with
      | true =>
        have HE := Lib.hid (show r = true by rw [HR.out, h1, h2, h3]; rfl)
        clear h1 h2
        go_wp2
        go_ret
        exact ⟨by rw [HE.out]; rfl, hb0⟩
      | false =>
        have HE := Lib.hid (show r = (x.m == 1) by rw [HR.out, h1, h2, h3]; rfl)
        clear h1 h2
        go_wp2
        go_ret
        exact ⟨by rw [HE.out]; rfl, hb0⟩
/-- .. met by the walk over all nodes. -/
def HalfNone (ns : List Nd) (k : Nat) : Prop := ∀ y ∈ ns.take k, halfN y.body = false
theorem half_next {ns : List Nd} {k : Nat} (h : HalfNone ns k) (hk : k < ns.length) (hx : halfN ns[k].body = false) : HalfNone ns (k + 1) := by
  intro y hy
  rw [take_next ns k hk] at hy
  rcases List.mem_append.1 hy with hy | hy
  · exact h y hy
  · rw [List.mem_singleton.1 hy]
    exact hx
theorem half_some {ns : List Nd} {k : Nat} (hk : k < ns.length) (hx : halfN ns[k].body = true) : ns.any (fun y => halfN y.body) = true := List.any_eq_true.2 ⟨_, List.getElem_mem hk, hx⟩
theorem half_all {ns : List Nd} {k : Nat} (h : HalfNone ns k) (hk : ns.length ≤ k) : ns.any (fun y => halfN y.body) = false := by
  rw [List.any_eq_false]
  intro y hy
  have := h y (by rw [List.take_of_length_le hk]; exact hy)
  simp [this]
set_option maxHeartbeats 1600000 in
theorem libIndexNode (a : Option Addr) (cap : Nat) (ns : List Nd) (w : World) (hn : ns.length ≤ maxLen) (hl : ∀ x ∈ ns, x.h.vs.length ≤ maxLen ∧ x.h.zs.length ≤ maxLen) (hat : NodesAt w a ns) :
    Calls Try.prog 46 #[.slice a ns.length cap, .func (.func 33) #[] #[]] w fun e w' => ∃ r : Int, e = .returned (.int .i64 r) ∧ decide (0 ≤ r) = ns.any (fun y => halfN y.body) ∧ Below w.heap.size w w' := by
  unfold maxLen at hn
  go_enter Try.func46, Try.ntmps46
  go_wp2
  go_loopw [8] (fun i wr => ∃ k : Nat, k ≤ ns.length ∧ i = .int .i64 k ∧ HalfNone ns k ∧ Below w.heap.size w wr) (fun i _ => ns.length - (intOf i).toNat)
  case atStart => exact ⟨0, Nat.zero_le _, rfl, fun y hy => by simp at hy, Below.refl _ _⟩
  case round =>
    obtain ⟨k, hk, rfl, hno, hb⟩ := hrel
    by_cases hlt : k < ns.length
    · obtain ⟨b, o, rfl, hbW, ⟨c0, c1, c2, c3⟩, hx⟩ := (hat.below hb).item k hlt
      have hxl := hl _ (List.getElem_mem hlt)
      have HSOME := Lib.hid (half_some hlt)
      have HNEXT := Lib.hid (half_next hno hlt)
      generalize ns[k] = x at *
      clear hno
      go_wp2_with fail
      refine (implHasHalf x _ hxl.1 hxl.2 hx).mono ?_
      rintro e w1 ⟨rfl, hb1⟩
      have hB1 := hb.trans (hb1.mono hb.size)
      clear c0 c1 c2 c3
      cases hh : halfN x.body with
      | true =>
        have HE := Lib.hid (HSOME.out hh)
        clear hh
        go_wp2
        go_ret
        exact ⟨k, rfl, by rw [HE.out]; exact decide_eq_true (by omega), hB1⟩
      | false =>
        have HE := Lib.hid (HNEXT.out hh)
        clear hh
        go_wp2
        go_roundw
        case rel => exact ⟨k + 1, by omega, by go_num, HE.out, hB1⟩
        case measure => simp [intOf]; omega
    · have HE := Lib.hid (half_all hno (by omega))
      clear hno
      go_wp2
      go_ret
      exact ⟨-1, rfl, by rw [HE.out]; rfl, hb⟩
theorem libHasNode (a : Option Addr) (cap : Nat) (ns : List Nd) (w : World) (hn : ns.length ≤ maxLen) (hl : ∀ x ∈ ns, x.h.vs.length ≤ maxLen ∧ x.h.zs.length ≤ maxLen) (hat : NodesAt w a ns) :
    Calls Try.prog 32 #[.slice a ns.length cap, .func (.func 33) #[] #[]] w (GaveX (.bool (ns.any fun y => halfN y.body)) w) := by
  go_enter Try.func32, Try.ntmps32
  go_wp2_with fail
  refine (libIndexNode a cap ns _ hn hl hat).mono ?_
  rintro e w1 ⟨r, rfl, hr, hb⟩
  have HR := Lib.hid hr
  clear hr
  go_wp2
  go_ret
  exact ⟨by rw [← HR.out]; rfl, hb⟩
theorem definB_eq (x : St) : definB x.body = (!(x.ns.any fun y => halfN y.body) && !decide (1 ∈ x.zs)) := by
  unfold definB St.body
  rw [List.any_map]
  rfl
set_option maxHeartbeats 1600000 in
theorem implDefinite (x : St) (w : World) (h : Small x.body) (_ : x.zs.length ≤ x.cb) (hat : x.At w) :
    Calls Try.prog 15 #[x.v] w (GaveX (.bool (definB x.body)) w) := by
  have hm := small_max h
  have HAT := Lib.hid (fun (W : World) (h : Below w.heap.size w W) => hat.below h)
  obtain ⟨r, hr⟩ : ∃ r, definB x.body = r := ⟨_, rfl⟩
  rw [hr]
  have HR := Lib.hid (hr.symm.trans (definB_eq x))
  clear hr hat h
  go_enter Try.func15, Try.ntmps15
  go_wp2_with fail
  obtain ⟨W0, hW0, hb0, hs0, hA0⟩ := one_box2 w (.slice x.a x.ns.length x.ca) (.slice x.b x.zs.length x.cb) 30
  rw [hW0]
  clear hW0
  have HA := Lib.hid (fun (W : World) (h : Below W0.heap.size W0 W) => hA0.keep hs0 h)
  clear hA0
  refine (libHasNode x.a x.ca x.ns _ hm.1 hm.2.2 (HAT.out _ hb0).nodes).mono ?_
  rintro e w1 ⟨rfl, hb1⟩
  have hB1 := hb0.trans (hb1.mono hb0.size)
  obtain ⟨c0, c1⟩ := HA.out _ hb1
  cases h1 : x.ns.any fun y => halfN y.body with
  | true =>
    have HE := Lib.hid (show r = false by rw [HR.out, h1]; rfl)
    clear h1
    go_wp2
    go_ret
    exact ⟨by rw [HE.out]; rfl, hB1⟩
  | false =>
    have HE := Lib.hid (show r = !decide (1 ∈ x.zs) by rw [HR.out, h1]; rfl)
    clear h1
    go_wp2_with fail
    refine (libHasI x.b x.cb x.zs 1 _ hm.2.1 (HAT.out _ hB1).next).mono ?_
    rintro e w2 ⟨rfl, rfl⟩
    go_wp2
    go_ret
    exact ⟨by rw [HE.out]; rfl, hB1⟩
set_option maxHeartbeats 3200000 in
theorem specDefinite (x : St) (w : World) (h : Small x.body) (hat : x.At w) :
    Calls Try.prog 14 #[x.v] w (GaveX (.bool (definB x.body)) w) := by
  have hm := small_max h
  have hsm := h.e1
  have HZL := Lib.hid h.z1
  have hnl := h.n1
  have HAT := Lib.hid (fun (W : World) (h : Below w.heap.size w W) => hat.below h)
  obtain ⟨r, hr⟩ : ∃ r, definB x.body = r := ⟨_, rfl⟩
  rw [hr]
  have HR := Lib.hid (hr.symm.trans (definB_eq x))
  clear hr hat h
  go_enter Try.func14, Try.ntmps14
  go_wp2_with fail
  obtain ⟨W0, hW0, hb0, hs0, hA0⟩ := one_box2 w (.slice x.a x.ns.length x.ca) (.slice x.b x.zs.length x.cb) 30
  rw [hW0]
  clear hW0
  have HA := Lib.hid (fun (W : World) (h : Below W0.heap.size W0 W) => And.intro (hA0.keep hs0 h) (hb0.trans (h.mono hb0.size)))
  clear hA0
  go_loopw [3] (fun i wr => ∃ k : Nat, k ≤ x.ns.length ∧ i = .int .i64 k ∧ HalfNone x.ns k ∧ Below W0.heap.size W0 wr) (fun i _ => x.ns.length - (intOf i).toNat)
  case atStart => exact ⟨0, Nat.zero_le _, rfl, fun y hy => by simp at hy, Below.refl _ _⟩
  case round =>
    obtain ⟨k, hk, rfl, hno, hb⟩ := hrel
    obtain ⟨⟨d0, d1⟩, hB⟩ := HA.out _ hb
    by_cases hlt : k < x.ns.length
    · obtain ⟨b, o, ha, hbW, hitem, hx⟩ := (HAT.out _ hB).nodes.item k hlt
      have hxl := hsm _ (List.getElem_mem hlt)
      have HSOME := Lib.hid (half_some hlt)
      have HNEXT := Lib.hid (half_next hno hlt)
      generalize x.ns[k] = y at *
      obtain ⟨c0, c1, c2, c3⟩ := hitem
      clear hno
      have h4 : halfN y.body = (decide (1 ∈ y.h.vs) || decide (1 ∈ y.h.zs) || y.s == 1 || y.m == 1) := rfl
      have H4 := Lib.hid h4
      clear h4
      rw [ha] at d0
      have hbx := (Below.refl wr.heap.size wr).alloc (Nat.le_refl _) (.cells #[.slice y.h.a y.h.vs.length y.h.ca, .slice y.h.b y.h.zs.length y.h.cb, .int .i64 y.s, .int .i64 y.m] 42)
      cases h1 : (y.s == 1) with
      | true =>
        have HE := Lib.hid (HSOME.out (by rw [H4.out, h1]; simp))
        go_wp2_with fail
        go_ret
        exact ⟨by rw [HR.out, HE.out]; rfl, hB.trans (hbx.mono hB.size)⟩
      | false =>
        cases h2 : (y.m == 1) with
        | true =>
          have HE := Lib.hid (HSOME.out (by rw [H4.out, h1, h2]; simp))
          go_wp2_with fail
          go_ret
          exact ⟨by rw [HR.out, HE.out]; rfl, hB.trans (hbx.mono hB.size)⟩
        | false =>
          go_wp2_with fail
          obtain ⟨W1, hW1, hb1, hY⟩ := one_boxL wr [.slice y.h.a y.h.vs.length y.h.ca, .slice y.h.b y.h.zs.length y.h.cb, .int .i64 y.s, .int .i64 y.m] 42
          simp only [List.toArray] at hW1
          rw [hW1]
          clear hW1 hbx
          have hB1 := hb.trans (hb1.mono hb.size)
          have hx1 := hx.below hb1
          refine (specHas y.h.a y.h.ca y.h.vs 1 _ hxl.1 hx1.v).mono ?_
          rintro e w2 ⟨rfl, hb2⟩
          have hY2 := hY.below hb2
          have hx2 := hx1.below hb2
          have hB2 := hB1.trans (hb2.mono hB1.size)
          obtain ⟨_, hBB2⟩ := HA.out _ hB2
          have e1 := hY2.c 1 _ rfl
          clear hY hY2 hb1 hb2 hx hx1 c0 c1 c2 c3 d0 d1
          cases h3 : decide ((1 : Int) ∈ y.h.vs) with
          | true =>
            have HE := Lib.hid (HSOME.out (by rw [H4.out, h3]; simp))
            clear h3
            go_wp2
            go_ret
            exact ⟨by rw [HR.out, HE.out]; rfl, hBB2⟩
          | false =>
            go_wp2_with fail
            refine (specHas y.h.b y.h.cb y.h.zs 1 _ hxl.2 hx2.z).mono ?_
            rintro e w3 ⟨rfl, hb3⟩
            have hB3 := hB2.trans (hb3.mono hB2.size)
            obtain ⟨_, hBB3⟩ := HA.out _ hB3
            cases h4 : decide ((1 : Int) ∈ y.h.zs) with
            | true =>
              have HE := Lib.hid (HSOME.out (by rw [H4.out, h4]; simp))
              clear h3 h4
              go_wp2
              go_ret
              exact ⟨by rw [HR.out, HE.out]; rfl, hBB3⟩
            | false =>
              have HE := Lib.hid (HNEXT.out (by rw [H4.out, h1, h2, h3, h4]; rfl))
              clear h3 h4
              go_wp2
              go_roundw
              case rel => exact ⟨k + 1, by omega, by go_num, HE.out, hB3⟩
              case measure => simp [intOf]; omega
    · have HE := Lib.hid (half_all hno (by omega))
      clear hno
      go_wp2_with fail
      refine (specHas x.b x.cb x.zs 1 _ HZL.out (HAT.out _ hB).next).mono ?_
      rintro e w2 ⟨rfl, hb2⟩
      go_wp2
      go_ret
      exact ⟨by rw [HR.out, HE.out]; rfl, hB.trans (hb2.mono hB.size)⟩
end Go.Proofs.Ytplchhahjmoodaa
