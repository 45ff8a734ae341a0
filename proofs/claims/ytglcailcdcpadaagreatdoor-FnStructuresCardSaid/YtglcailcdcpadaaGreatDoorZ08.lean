/-
  Several texts of one proof in one file, in the order in which they build.
-/
import Derived.Test.YtglcailcdcpadaaGreatDoorChecked
import Derived.Deep.RegionLaw
import Derived.Deep.AppendLies
import Derived.Test.YtglcailcdcpadaaGreatDoorZ03
import Derived.Test.YtglcailcdcpadaaGreatDoorZ05
import Derived.Test.YtglcailcdcpadaaGreatDoorZ07
/-
  The three truth values: what chapter 3's functions come to; the walks of the model's functions and of the program's IsTruth and TruthText.
-/
namespace Go.Proofs.YtglcailcdcpadaaGreatDoor
open Go Go.RowKit

def isT (a : Int) : Bool := decide (0 ≤ a) && decide (a ≤ 2)
def notT (a : Int) : Int := if isT a then 2 - a else 1
def andT (a b : Int) : Int := if isT a && isT b then (if a < b then a else b) else 1
def orT (a b : Int) : Int := if isT a && isT b then (if b < a then a else b) else 1
def joinT (a b : Int) : Int := if isT a && (a == b) then a else 1
def withinT (a b : Int) : Bool := isT a && isT b && (b == 1 || a == b)
def textT (a : Int) : ByteArray := if a = 0 then ⟨#[48]⟩ else if a = 1 then ⟨#[63]⟩ else if a = 2 then ⟨#[49]⟩ else ⟨#[]⟩

theorem isT_true {a : Int} : isT a = true ↔ 0 ≤ a ∧ a ≤ 2 := by simp [isT]
theorem isT_three {a : Int} (h : isT a = true) : a = 0 ∨ a = 1 ∨ a = 2 := by rw [isT_true] at h; omega

/-- It returned x, and nothing has turned. -/
def Gave (x : Value) (w : World) (e : Ending) (w' : World) : Prop := e = .returned x ∧ w = w'

theorem implIsTruth (a : Int) (w : World) : Calls Tryz.prog 30 #[.int .i64 a] w (Gave (.bool (isT a)) w) := by
  by_cases h0 : 0 ≤ a <;> by_cases h1 : a ≤ 2
  all_goals
    go_enter Tryz.func30, Tryz.ntmps30
    go_wp2
    go_ret
    exact ⟨by simp [isT, h0, h1], rfl⟩

theorem specInT (a x y : Int) (w : World) : Calls Tryz.prog 48 #[.int .i64 a, .int .i64 x, .int .i64 y] w (Gave (.bool (decide (x ≤ a) && decide (a ≤ y))) w) := by
  by_cases h0 : x ≤ a <;> by_cases h1 : a ≤ y
  all_goals
    go_enter Tryz.func48, Tryz.ntmps48
    go_wp2
    go_ret
    exact ⟨by simp [h0, h1], rfl⟩

theorem specIsTruth (a : Int) (w : World) : Calls Tryz.prog 47 #[.int .i64 a] w (Gave (.bool (isT a)) w) := by
  go_enter Tryz.func47, Tryz.ntmps47
  go_wp2_with fail
  refine (specInT a 0 2 _).mono ?_
  rintro e w1 ⟨rfl, rfl⟩
  go_wp2
  go_ret
  exact ⟨rfl, rfl⟩

theorem specNotOf (a : Int) (w : World) : Calls Tryz.prog 78 #[.int .i64 a] w (Gave (.int .i64 (notT a)) w) := by
  cases h : isT a with
  | false =>
    have hn : notT a = 1 := by simp [notT, h]
    rw [hn]
    have H := Lib.hid h
    clear h hn
    go_enter Tryz.func78, Tryz.ntmps78
    go_wp2_with fail
    refine (specIsTruth a _).mono ?_
    rw [H.out]
    rintro e w1 ⟨rfl, rfl⟩
    go_wp2
    go_ret
    exact ⟨rfl, rfl⟩
  | true =>
    have hn : notT a = 2 - a := by simp [notT, h]
    rw [hn]
    have hr := isT_true.1 h
    have H := Lib.hid h
    clear h hn
    go_enter Tryz.func78, Tryz.ntmps78
    go_wp2_with fail
    refine (specIsTruth a _).mono ?_
    rw [H.out]
    rintro e w1 ⟨rfl, rfl⟩
    go_wp2
    go_ret
    exact ⟨by go_num, rfl⟩

theorem specMin (a b : Int) (w : World) : Calls Tryz.prog 120 #[.int .i64 a, .int .i64 b] w (Gave (.int .i64 (if a < b then a else b)) w) := by
  by_cases h : a < b
  · rw [if_pos h]
    go_enter Tryz.func120, Tryz.ntmps120
    go_wp2
    go_ret
    exact ⟨rfl, rfl⟩
  · rw [if_neg h]
    go_enter Tryz.func120, Tryz.ntmps120
    go_wp2
    go_ret
    exact ⟨rfl, rfl⟩

theorem specMaxT (a b : Int) (w : World) : Calls Tryz.prog 65 #[.int .i64 a, .int .i64 b] w (Gave (.int .i64 (if b < a then a else b)) w) := by
  by_cases h : b < a
  · rw [if_pos h]
    go_enter Tryz.func65, Tryz.ntmps65
    go_wp2
    go_ret
    exact ⟨rfl, rfl⟩
  · rw [if_neg h]
    go_enter Tryz.func65, Tryz.ntmps65
    go_wp2
    go_ret
    exact ⟨rfl, rfl⟩

theorem specAndOf (a b : Int) (w : World) : Calls Tryz.prog 79 #[.int .i64 a, .int .i64 b] w (Gave (.int .i64 (andT a b)) w) := by
  cases ha : isT a with
  | false =>
    rw [show andT a b = 1 from by simp [andT, ha]]
    have Ha := Lib.hid ha
    clear ha
    go_enter Tryz.func79, Tryz.ntmps79
    go_wp2_with fail
    refine (specIsTruth a _).mono ?_
    rw [Ha.out]
    rintro e w1 ⟨rfl, rfl⟩
    go_wp2
    go_ret
    exact ⟨rfl, rfl⟩
  | true =>
    cases hb : isT b with
    | false =>
      rw [show andT a b = 1 from by simp [andT, hb]]
      have Ha := Lib.hid ha
      have Hb := Lib.hid hb
      clear ha hb
      go_enter Tryz.func79, Tryz.ntmps79
      go_wp2_with fail
      refine (specIsTruth a _).mono ?_
      rw [Ha.out]
      rintro e w1 ⟨rfl, rfl⟩
      go_wp2_with fail
      refine (specIsTruth b _).mono ?_
      rw [Hb.out]
      rintro e w1 ⟨rfl, rfl⟩
      go_wp2
      go_ret
      exact ⟨rfl, rfl⟩
    | true =>
      rw [show andT a b = if a < b then a else b from by simp [andT, ha, hb]]
      have Ha := Lib.hid ha
      have Hb := Lib.hid hb
      generalize hr : (if a < b then a else b) = r
      have Hr := Lib.hid hr
      clear ha hb hr
      go_enter Tryz.func79, Tryz.ntmps79
      go_wp2_with fail
      refine (specIsTruth a _).mono ?_
      rw [Ha.out]
      rintro e w1 ⟨rfl, rfl⟩
      go_wp2_with fail
      refine (specIsTruth b _).mono ?_
      rw [Hb.out]
      rintro e w1 ⟨rfl, rfl⟩
      go_wp2_with fail
      refine (specMin a b _).mono ?_
      rw [Hr.out]
      rintro e w1 ⟨rfl, rfl⟩
      go_wp2
      go_ret
      exact ⟨rfl, rfl⟩

theorem specOrOf (a b : Int) (w : World) : Calls Tryz.prog 80 #[.int .i64 a, .int .i64 b] w (Gave (.int .i64 (orT a b)) w) := by
  cases ha : isT a with
  | false =>
    rw [show orT a b = 1 from by simp [orT, ha]]
    have Ha := Lib.hid ha
    clear ha
    go_enter Tryz.func80, Tryz.ntmps80
    go_wp2_with fail
    refine (specIsTruth a _).mono ?_
    rw [Ha.out]
    rintro e w1 ⟨rfl, rfl⟩
    go_wp2
    go_ret
    exact ⟨rfl, rfl⟩
  | true =>
    cases hb : isT b with
    | false =>
      rw [show orT a b = 1 from by simp [orT, hb]]
      have Ha := Lib.hid ha
      have Hb := Lib.hid hb
      clear ha hb
      go_enter Tryz.func80, Tryz.ntmps80
      go_wp2_with fail
      refine (specIsTruth a _).mono ?_
      rw [Ha.out]
      rintro e w1 ⟨rfl, rfl⟩
      go_wp2_with fail
      refine (specIsTruth b _).mono ?_
      rw [Hb.out]
      rintro e w1 ⟨rfl, rfl⟩
      go_wp2
      go_ret
      exact ⟨rfl, rfl⟩
    | true =>
      rw [show orT a b = if b < a then a else b from by simp [orT, ha, hb]]
      have Ha := Lib.hid ha
      have Hb := Lib.hid hb
      generalize hr : (if b < a then a else b) = r
      have Hr := Lib.hid hr
      clear ha hb hr
      go_enter Tryz.func80, Tryz.ntmps80
      go_wp2_with fail
      refine (specIsTruth a _).mono ?_
      rw [Ha.out]
      rintro e w1 ⟨rfl, rfl⟩
      go_wp2_with fail
      refine (specIsTruth b _).mono ?_
      rw [Hb.out]
      rintro e w1 ⟨rfl, rfl⟩
      go_wp2_with fail
      refine (specMaxT a b _).mono ?_
      rw [Hr.out]
      rintro e w1 ⟨rfl, rfl⟩
      go_wp2
      go_ret
      exact ⟨rfl, rfl⟩

theorem specJoinOf (a b : Int) (w : World) : Calls Tryz.prog 151 #[.int .i64 a, .int .i64 b] w (Gave (.int .i64 (joinT a b)) w) := by
  by_cases hab : a = b
  · subst hab
    cases ha : isT a with
    | false =>
      rw [show joinT a a = 1 from by simp [joinT, ha]]
      have Ha := Lib.hid ha
      clear ha
      go_enter Tryz.func151, Tryz.ntmps151
      go_wp2_with fail
      refine (specIsTruth a _).mono ?_
      rw [Ha.out]
      rintro e w1 ⟨rfl, rfl⟩
      go_wp2
      go_ret
      exact ⟨rfl, rfl⟩
    | true =>
      rw [show joinT a a = a from by simp [joinT, ha]]
      have Ha := Lib.hid ha
      clear ha
      go_enter Tryz.func151, Tryz.ntmps151
      go_wp2_with fail
      refine (specIsTruth a _).mono ?_
      rw [Ha.out]
      rintro e w1 ⟨rfl, rfl⟩
      go_wp2
      go_ret
      exact ⟨rfl, rfl⟩
  · rw [show joinT a b = 1 from by simp [joinT, hab]]
    have he : (a != b) = true := by simpa using hab
    clear hab
    go_enter Tryz.func151, Tryz.ntmps151
    go_wp2
    go_ret
    exact ⟨rfl, rfl⟩

theorem textT_none {a : Int} (h : isT a = false) : textT a = ⟨#[]⟩ := by
  have h1 : ¬ (0 ≤ a ∧ a ≤ 2) := fun hh => by rw [isT_true.2 hh] at h; cases h
  have h2 : a ≠ 0 := by omega
  have h3 : a ≠ 1 := by omega
  have h4 : a ≠ 2 := by omega
  simp [textT, h2, h3, h4]

theorem specTruthText (a : Int) (w : World) : Calls Tryz.prog 102 #[.int .i64 a] w (Gave (.string (textT a)) w) := by
  cases h : isT a with
  | false =>
    rw [textT_none h]
    have H := Lib.hid h
    clear h
    go_enter Tryz.func102, Tryz.ntmps102
    go_wp2_with fail
    refine (specIsTruth a _).mono ?_
    rw [H.out]
    rintro e w1 ⟨rfl, rfl⟩
    go_wp2
    go_ret
    exact ⟨rfl, rfl⟩
  | true =>
    rcases isT_three h with rfl | rfl | rfl
    all_goals
      clear h
      go_enter Tryz.func102, Tryz.ntmps102
      go_wp2_with fail
      refine (specIsTruth _ _).mono ?_
      rintro e w1 ⟨rfl, rfl⟩
      simp only [show isT 0 = true from rfl, show isT 1 = true from rfl, show isT 2 = true from rfl]
      go_wp2
      go_ret
      exact ⟨rfl, rfl⟩
end Go.Proofs.YtglcailcdcpadaaGreatDoor
/-
  Has a structure only known values: the program's walk and the model's.
-/
namespace Go.Proofs.YtglcailcdcpadaaGreatDoor
open Go Go.RowKit

abbrev NBody := (List Int × List Int) × Int × Int
abbrev SBody := List NBody × List Int
def halfN (b : NBody) : Bool := decide (1 ∈ b.1.1) || decide (1 ∈ b.1.2) || b.2.1 == 1 || b.2.2 == 1
def definB (s : SBody) : Bool := !(s.1.any halfN) && !decide (1 ∈ s.2)
/-- The answer of the library's Index: not negative just where the number is there. -/
def FoundI (x : Int) (zs : List Int) (w : World) (e : Ending) (w' : World) : Prop := ∃ r : Int, e = .returned (.int .i64 r) ∧ (decide (0 ≤ r) = decide (x ∈ zs)) ∧ w' = w
set_option maxHeartbeats 800000 in
theorem libIndexI (a : Option Addr) (cap : Nat) (zs : List Int) (x : Int) (w : World) (hn : zs.length ≤ maxLen) (hrow : Row w w.heap.size a (intVals zs)) :
    Calls Tryz.prog 91 #[.slice a zs.length cap, .int .i64 x] w (FoundI x zs w) := by
  unfold maxLen at hn
  have HF := Lib.hid (fun (k : Nat) (h : k ≤ zs.length) (hno : x ∉ zs.take k) (he : k = zs.length) => show x ∉ zs by rw [he, List.take_length] at hno; exact hno)
  go_enter Tryz.func91, Tryz.ntmps91
  go_wp2
  go_loopw [8] (fun i wr => ∃ k : Nat, k ≤ zs.length ∧ i = .int .i64 k ∧ x ∉ zs.take k ∧ wr = w) (fun i _ => zs.length - (intOf i).toNat)
  case atStart => exact ⟨0, Nat.zero_le _, rfl, by simp, rfl⟩
  case round =>
    obtain ⟨k, hk, rfl, hno, rfl⟩ := hrel
    by_cases hlt : k < zs.length
    · obtain ⟨b, o, rfl, hbW, hc⟩ := hrow k (.int .i64 zs[k]) (intVals_at zs k hlt)
      have HN := Lib.hid hno
      clear hno
      by_cases he : x = zs[k]
      · have hd : (x == zs[k]) = true := beq_iff_eq.2 he
        have HE := Lib.hid (show decide (x ∈ zs) = true from decide_eq_true (by rw [he]; exact List.getElem_mem hlt))
        clear he
        go_wp2
        go_ret
        exact ⟨k, rfl, by rw [HE.out]; exact decide_eq_true (by omega), rfl⟩
      · have hd : (x == zs[k]) = false := beq_eq_false_iff_ne.2 he
        have HE := Lib.hid he
        clear he
        go_wp2
        go_roundw
        case rel => exact ⟨k + 1, by omega, by go_num, by rw [take_next zs k hlt]; simp only [List.mem_append, List.mem_singleton, not_or]; exact ⟨HN.out, HE.out⟩, trivial⟩
        case measure => simp [intOf]; omega
    · have HE := Lib.hid (show decide (x ∈ zs) = false from decide_eq_false (HF.out k hk hno (by omega)))
      clear hno
      go_wp2
      go_ret
      exact ⟨-1, rfl, by rw [HE.out]; rfl, rfl⟩
theorem libHasI (a : Option Addr) (cap : Nat) (zs : List Int) (x : Int) (w : World) (hn : zs.length ≤ maxLen) (hrow : Row w w.heap.size a (intVals zs)) :
    Calls Tryz.prog 52 #[.slice a zs.length cap, .int .i64 x] w fun e w' => e = .returned (.bool (decide (x ∈ zs))) ∧ w' = w := by
  go_enter Tryz.func52, Tryz.ntmps52
  go_wp2_with fail
  refine (libIndexI a cap zs x _ hn hrow).mono ?_
  rintro e w1 ⟨r, rfl, hr, rfl⟩
  have HR := Lib.hid hr
  clear hr
  go_wp2
  go_ret
  exact ⟨by rw [← HR.out]; rfl, rfl⟩
theorem or4 {a b c d : Bool} {r : Bool} (h : (a || b || c || d) = r) : r = (a || b || c || d) := h.symm
set_option maxHeartbeats 1600000 in
theorem implHasHalf (x : Nd) (w : World) (hv : x.h.vs.length ≤ maxLen) (hz : x.h.zs.length ≤ maxLen) (hat : x.h.At w) :
    Calls Tryz.prog 51 #[ndC x.h.a x.h.vs.length x.h.ca x.h.b x.h.zs.length x.h.cb x.s x.m] w (GaveX (.bool (halfN x.body)) w) := by
  have HAT := Lib.hid (fun (W : World) (h : Below w.heap.size w W) => hat.below h)
  clear hat
  obtain ⟨r, hr⟩ : ∃ r, halfN x.body = r := ⟨_, rfl⟩
  rw [hr]
  have hr2 : r = (decide (1 ∈ x.h.vs) || decide (1 ∈ x.h.zs) || x.s == 1 || x.m == 1) := hr.symm
  have HR := Lib.hid hr2
  clear hr hr2
  go_enter Tryz.func51, Tryz.ntmps51
  go_wp2_with fail
  obtain ⟨W0, hW0, hb0, hA0⟩ := one_boxL w [.slice x.h.a x.h.vs.length x.h.ca, .slice x.h.b x.h.zs.length x.h.cb, .int .i64 x.s, .int .i64 x.m] 56
  simp only [List.toArray] at hW0
  rw [hW0]
  clear hW0
  have c1 := hA0.c 1 _ rfl
  have c2 := hA0.c 2 _ rfl
  have c3 := hA0.c 3 _ rfl
  clear hA0
  refine (libHasI x.h.a x.h.ca x.h.vs 1 _ hv (HAT.out _ hb0).v).mono ?_
  rintro e w1 ⟨rfl, rfl⟩
  cases h1 : decide ((1 : Int) ∈ x.h.vs) with
  | true =>
    have HE := Lib.hid (show r = true by rw [HR.out, h1]; rfl)
    clear h1
    go_wp2
    go_ret
    exact ⟨by rw [HE.out]; rfl, hb0⟩
  | false =>
    go_wp2_with fail
    refine (libHasI x.h.b x.h.cb x.h.zs 1 _ hz (HAT.out _ hb0).z).mono ?_
    rintro e w1 ⟨rfl, rfl⟩
    cases h2 : decide ((1 : Int) ∈ x.h.zs) with
    | true =>
      have HE := Lib.hid (show r = true by rw [HR.out, h1, h2]; rfl)
      clear h1 h2
      go_wp2
      go_ret
      exact ⟨by rw [HE.out]; rfl, hb0⟩
    | false =>
      cases h3 : (x.s == 1) with
      | true =>
        have HE := Lib.hid (show r = true by rw [HR.out, h1, h2, h3]; rfl)
        clear h1 h2
        go_wp2
        go_ret
        exact ⟨by rw [HE.out]; rfl, hb0⟩
      | false =>
        have HE := Lib.hid (show r = (x.m == 1) by rw [HR.out, h1, h2, h3]; rfl)
        clear h1 h2
        go_wp2
        go_ret
        exact ⟨by rw [HE.out]; rfl, hb0⟩
/-- .. met by the walk over all nodes. -/
def HalfNone (ns : List Nd) (k : Nat) : Prop := ∀ y ∈ ns.take k, halfN y.body = false
theorem half_next {ns : List Nd} {k : Nat} (h : HalfNone ns k) (hk : k < ns.length) (hx : halfN ns[k].body = false) : HalfNone ns (k + 1) := by
  intro y hy
  rw [take_next ns k hk] at hy
  rcases List.mem_append.1 hy with hy | hy
  · exact h y hy
  · rw [List.mem_singleton.1 hy]
    exact hx
theorem half_some {ns : List Nd} {k : Nat} (hk : k < ns.length) (hx : halfN ns[k].body = true) : ns.any (fun y => halfN y.body) = true := List.any_eq_true.2 ⟨_, List.getElem_mem hk, hx⟩
theorem half_all {ns : List Nd} {k : Nat} (h : HalfNone ns k) (hk : ns.length ≤ k) : ns.any (fun y => halfN y.body) = false := by
  rw [List.any_eq_false]
  intro y hy
  have := h y (by rw [List.take_of_length_le hk]; exact hy)
  simp [this]
set_option maxHeartbeats 1600000 in
theorem libIndexNode (a : Option Addr) (cap : Nat) (ns : List Nd) (w : World) (hn : ns.length ≤ maxLen) (hl : ∀ x ∈ ns, x.h.vs.length ≤ maxLen ∧ x.h.zs.length ≤ maxLen) (hat : NodesAt w a ns) :
    Calls Tryz.prog 90 #[.slice a ns.length cap, .func (.func 51) #[] #[]] w fun e w' => ∃ r : Int, e = .returned (.int .i64 r) ∧ decide (0 ≤ r) = ns.any (fun y => halfN y.body) ∧ Below w.heap.size w w' := by
  unfold maxLen at hn
  go_enter Tryz.func90, Tryz.ntmps90
  go_wp2
  go_loopw [8] (fun i wr => ∃ k : Nat, k ≤ ns.length ∧ i = .int .i64 k ∧ HalfNone ns k ∧ Below w.heap.size w wr) (fun i _ => ns.length - (intOf i).toNat)
  case atStart => exact ⟨0, Nat.zero_le _, rfl, fun y hy => by simp at hy, Below.refl _ _⟩
  case round =>
    obtain ⟨k, hk, rfl, hno, hb⟩ := hrel
    by_cases hlt : k < ns.length
    · obtain ⟨b, o, rfl, hbW, ⟨c0, c1, c2, c3⟩, hx⟩ := (hat.below hb).item k hlt
      have hxl := hl _ (List.getElem_mem hlt)
      have HSOME := Lib.hid (half_some hlt)
      have HNEXT := Lib.hid (half_next hno hlt)
      generalize ns[k] = x at *
      clear hno
      go_wp2_with fail
      refine (implHasHalf x _ hxl.1 hxl.2 hx).mono ?_
      rintro e w1 ⟨rfl, hb1⟩
      have hB1 := hb.trans (hb1.mono hb.size)
      clear c0 c1 c2 c3
      cases hh : halfN x.body with
      | true =>
        have HE := Lib.hid (HSOME.out hh)
        clear hh
        go_wp2
        go_ret
        exact ⟨k, rfl, by rw [HE.out]; exact decide_eq_true (by omega), hB1⟩
      | false =>
        have HE := Lib.hid (HNEXT.out hh)
        clear hh
        go_wp2
        go_roundw
        case rel => exact ⟨k + 1, by omega, by go_num, HE.out, hB1⟩
        case measure => simp [intOf]; omega
    · have HE := Lib.hid (half_all hno (by omega))
      clear hno
      go_wp2
      go_ret
      exact ⟨-1, rfl, by rw [HE.out]; rfl, hb⟩
theorem libHasNode (a : Option Addr) (cap : Nat) (ns : List Nd) (w : World) (hn : ns.length ≤ maxLen) (hl : ∀ x ∈ ns, x.h.vs.length ≤ maxLen ∧ x.h.zs.length ≤ maxLen) (hat : NodesAt w a ns) :
    Calls Tryz.prog 50 #[.slice a ns.length cap, .func (.func 51) #[] #[]] w (GaveX (.bool (ns.any fun y => halfN y.body)) w) := by
  go_enter Tryz.func50, Tryz.ntmps50
  go_wp2_with fail
  refine (libIndexNode a cap ns _ hn hl hat).mono ?_
  rintro e w1 ⟨r, rfl, hr, hb⟩
  have HR := Lib.hid hr
  clear hr
  go_wp2
  go_ret
  exact ⟨by rw [← HR.out]; rfl, hb⟩
theorem definB_eq (x : St) : definB x.body = (!(x.ns.any fun y => halfN y.body) && !decide (1 ∈ x.zs)) := by
  unfold definB St.body
  rw [List.any_map]
  rfl
set_option maxHeartbeats 1600000 in
theorem implDefinite (x : St) (w : World) (h : Small x.body) (_ : x.zs.length ≤ x.cb) (hat : x.At w) :
    Calls Tryz.prog 16 #[x.v] w (GaveX (.bool (definB x.body)) w) := by
  have hm := small_max h
  have HAT := Lib.hid (fun (W : World) (h : Below w.heap.size w W) => hat.below h)
  obtain ⟨r, hr⟩ : ∃ r, definB x.body = r := ⟨_, rfl⟩
  rw [hr]
  have HR := Lib.hid (hr.symm.trans (definB_eq x))
  clear hr hat h
  go_enter Tryz.func16, Tryz.ntmps16
  go_wp2_with fail
  obtain ⟨W0, hW0, hb0, hs0, hA0⟩ := one_box2 w (.slice x.a x.ns.length x.ca) (.slice x.b x.zs.length x.cb) 27
  rw [hW0]
  clear hW0
  have HA := Lib.hid (fun (W : World) (h : Below W0.heap.size W0 W) => hA0.keep hs0 h)
  clear hA0
  refine (libHasNode x.a x.ca x.ns _ hm.1 hm.2.2 (HAT.out _ hb0).nodes).mono ?_
  rintro e w1 ⟨rfl, hb1⟩
  have hB1 := hb0.trans (hb1.mono hb0.size)
  obtain ⟨c0, c1⟩ := HA.out _ hb1
  cases h1 : x.ns.any fun y => halfN y.body with
  | true =>
    have HE := Lib.hid (show r = false by rw [HR.out, h1]; rfl)
    clear h1
    go_wp2
    go_ret
    exact ⟨by rw [HE.out]; rfl, hB1⟩
  | false =>
    have HE := Lib.hid (show r = !decide (1 ∈ x.zs) by rw [HR.out, h1]; rfl)
    clear h1
    go_wp2_with fail
    refine (libHasI x.b x.cb x.zs 1 _ hm.2.1 (HAT.out _ hB1).next).mono ?_
    rintro e w2 ⟨rfl, rfl⟩
    go_wp2
    go_ret
    exact ⟨by rw [HE.out]; rfl, hB1⟩
set_option maxHeartbeats 3200000 in
theorem specDefinite (x : St) (w : World) (h : Small x.body) (hat : x.At w) :
    Calls Tryz.prog 17 #[x.v] w (GaveX (.bool (definB x.body)) w) := by
  have hm := small_max h
  have hsm := h.e1
  have HZL := Lib.hid h.z1
  have hnl := h.n1
  have HAT := Lib.hid (fun (W : World) (h : Below w.heap.size w W) => hat.below h)
  obtain ⟨r, hr⟩ : ∃ r, definB x.body = r := ⟨_, rfl⟩
  rw [hr]
  have HR := Lib.hid (hr.symm.trans (definB_eq x))
  clear hr hat h
  go_enter Tryz.func17, Tryz.ntmps17
  go_wp2_with fail
  obtain ⟨W0, hW0, hb0, hs0, hA0⟩ := one_box2 w (.slice x.a x.ns.length x.ca) (.slice x.b x.zs.length x.cb) 27
  rw [hW0]
  clear hW0
  have HA := Lib.hid (fun (W : World) (h : Below W0.heap.size W0 W) => And.intro (hA0.keep hs0 h) (hb0.trans (h.mono hb0.size)))
  clear hA0
  go_loopw [3] (fun i wr => ∃ k : Nat, k ≤ x.ns.length ∧ i = .int .i64 k ∧ HalfNone x.ns k ∧ Below W0.heap.size W0 wr) (fun i _ => x.ns.length - (intOf i).toNat)
  case atStart => exact ⟨0, Nat.zero_le _, rfl, fun y hy => by simp at hy, Below.refl _ _⟩
  case round =>
    obtain ⟨k, hk, rfl, hno, hb⟩ := hrel
    obtain ⟨⟨d0, d1⟩, hB⟩ := HA.out _ hb
    by_cases hlt : k < x.ns.length
    · obtain ⟨b, o, ha, hbW, hitem, hx⟩ := (HAT.out _ hB).nodes.item k hlt
      have hxl := hsm _ (List.getElem_mem hlt)
      have HSOME := Lib.hid (half_some hlt)
      have HNEXT := Lib.hid (half_next hno hlt)
      generalize x.ns[k] = y at *
      obtain ⟨c0, c1, c2, c3⟩ := hitem
      clear hno
      have h4 : halfN y.body = (decide (1 ∈ y.h.vs) || decide (1 ∈ y.h.zs) || y.s == 1 || y.m == 1) := rfl
      have H4 := Lib.hid h4
      clear h4
      rw [ha] at d0
      have hbx := (Below.refl wr.heap.size wr).alloc (Nat.le_refl _) (.cells #[.slice y.h.a y.h.vs.length y.h.ca, .slice y.h.b y.h.zs.length y.h.cb, .int .i64 y.s, .int .i64 y.m] 56)
      cases h1 : (y.s == 1) with
      | true =>
        have HE := Lib.hid (HSOME.out (by rw [H4.out, h1]; simp))
        go_wp2_with fail
        go_ret
        exact ⟨by rw [HR.out, HE.out]; rfl, hB.trans (hbx.mono hB.size)⟩
      | false =>
        cases h2 : (y.m == 1) with
        | true =>
          have HE := Lib.hid (HSOME.out (by rw [H4.out, h1, h2]; simp))
          go_wp2_with fail
          go_ret
          exact ⟨by rw [HR.out, HE.out]; rfl, hB.trans (hbx.mono hB.size)⟩
        | false =>
          go_wp2_with fail
          obtain ⟨W1, hW1, hb1, hY⟩ := one_boxL wr [.slice y.h.a y.h.vs.length y.h.ca, .slice y.h.b y.h.zs.length y.h.cb, .int .i64 y.s, .int .i64 y.m] 56
          simp only [List.toArray] at hW1
          rw [hW1]
          clear hW1 hbx
          have hB1 := hb.trans (hb1.mono hb.size)
          have hx1 := hx.below hb1
          refine (specHas y.h.a y.h.ca y.h.vs 1 _ hxl.1 hx1.v).mono ?_
          rintro e w2 ⟨rfl, hb2⟩
          have hY2 := hY.below hb2
          have hx2 := hx1.below hb2
          have hB2 := hB1.trans (hb2.mono hB1.size)
          obtain ⟨_, hBB2⟩ := HA.out _ hB2
          have e1 := hY2.c 1 _ rfl
          clear hY hY2 hb1 hb2 hx hx1 c0 c1 c2 c3 d0 d1
          cases h3 : decide ((1 : Int) ∈ y.h.vs) with
          | true =>
            have HE := Lib.hid (HSOME.out (by rw [H4.out, h3]; simp))
            clear h3
            go_wp2
            go_ret
            exact ⟨by rw [HR.out, HE.out]; rfl, hBB2⟩
          | false =>
            go_wp2_with fail
            refine (specHas y.h.b y.h.cb y.h.zs 1 _ hxl.2 hx2.z).mono ?_
            rintro e w3 ⟨rfl, hb3⟩
            have hB3 := hB2.trans (hb3.mono hB2.size)
            obtain ⟨_, hBB3⟩ := HA.out _ hB3
            cases h4 : decide ((1 : Int) ∈ y.h.zs) with
            | true =>
              have HE := Lib.hid (HSOME.out (by rw [H4.out, h4]; simp))
              clear h3 h4
              go_wp2
              go_ret
              exact ⟨by rw [HR.out, HE.out]; rfl, hBB3⟩
            | false =>
              have HE := Lib.hid (HNEXT.out (by rw [H4.out, h1, h2, h3, h4]; rfl))
              clear h3 h4
              go_wp2
              go_roundw
              case rel => exact ⟨k + 1, by omega, by go_num, HE.out, hB3⟩
              case measure => simp [intOf]; omega
    · have HE := Lib.hid (half_all hno (by omega))
      clear hno
      go_wp2_with fail
      refine (specHas x.b x.cb x.zs 1 _ HZL.out (HAT.out _ hB).next).mono ?_
      rintro e w2 ⟨rfl, hb2⟩
      go_wp2
      go_ret
      exact ⟨by rw [HR.out, HE.out]; rfl, hB.trans (hb2.mono hB.size)⟩
end Go.Proofs.YtglcailcdcpadaaGreatDoor
/-
  Does a structure have an element of Next for each pair of nodes; one element of it: the program's walks and the model's.
-/
namespace Go.Proofs.YtglcailcdcpadaaGreatDoor
open Go Go.RowKit

def pairsB (n m : Nat) : Bool := decide (m = n * n)
theorem tmod_nat (m n : Nat) : (m : Int).tmod (n : Int) = ((m % n : Nat) : Int) := by
  rw [Int.tmod_eq_emod_of_nonneg (by omega)]
  exact (Int.natCast_emod m n).symm
theorem tdiv_nat (m n : Nat) : (m : Int).tdiv (n : Int) = ((m / n : Nat) : Int) := by
  rw [Int.tdiv_eq_ediv_of_nonneg (by omega)]
  exact (Int.natCast_ediv m n).symm
set_option maxHeartbeats 800000 in
theorem implAllPairs (a b : Option Addr) (ca cb n m : Nat) (w : World) (hn : n ≤ maxLen) (hm : m ≤ maxLen) :
    Calls Tryz.prog 43 #[heV a n ca b m cb] w (GaveX (.bool (pairsB n m)) w) := by
  unfold maxLen at hn hm
  obtain ⟨W0, hW0, hb0, hs0, hA0⟩ := one_box2 w (.slice a n ca) (.slice b m cb) 27
  obtain ⟨c0, c1⟩ := hA0
  by_cases h0 : n = 0
  · subst h0
    have hp : pairsB 0 m = decide (m = 0) := by unfold pairsB; rw [Nat.zero_mul]
    rw [hp]
    clear hp
    by_cases hm0 : m = 0
    · subst hm0
      go_enter Tryz.func43, Tryz.ntmps43
      go_wp2_with fail
      clear hW0
      go_quiet (fail)
      go_wp2
      go_ret
      exact ⟨rfl, below_draws hb0 _⟩
    · have hd : ((m : Int) == 0) = false := beq_eq_false_iff_ne.2 (by omega)
      have hf : decide (m = 0) = false := decide_eq_false hm0
      rw [hf]
      clear hf
      go_enter Tryz.func43, Tryz.ntmps43
      go_wp2_with fail
      clear hW0
      go_quiet (fail)
      go_wp2
      go_ret
      exact ⟨rfl, below_draws hb0 _⟩
  · have hd0 : ((n : Int) == 0) = false := beq_eq_false_iff_ne.2 (by omega)
    have hn0 : ¬ (n : Int) = 0 := by omega
    have t1 := tmod_nat m n
    have t2 := tdiv_nat m n
    have hq : m / n ≤ m := Nat.div_le_self m n
    have hr : m % n ≤ m := Nat.mod_le m n
    by_cases h1 : m % n = 0
    · by_cases h2 : m / n = n
      · have hf : pairsB n m = true := decide_eq_true (by
          have := Nat.div_add_mod m n
          rw [h1, h2, Nat.add_zero] at this
          exact this.symm)
        rw [hf]
        rw [h1] at t1
        rw [h2] at t2
        clear hf h1 h2
        go_enter Tryz.func43, Tryz.ntmps43
        go_wp2_with fail
        clear hW0
        go_quiet (fail)
        go_wp2
        go_ret
        exact ⟨rfl, below_draws hb0 _⟩
      · have hf : pairsB n m = false := decide_eq_false (by
          intro h
          apply h2
          rw [h, Nat.mul_div_cancel _ (by omega)])
        rw [hf]
        have hd2 : (((m / n : Nat) : Int) == (n : Int)) = false := beq_eq_false_iff_ne.2 (by omega)
        rw [h1] at t1
        generalize m / n = q at *
        clear hf h1
        go_enter Tryz.func43, Tryz.ntmps43
        go_wp2_with fail
        clear hW0
        go_quiet (fail)
        go_wp2
        go_ret
        exact ⟨rfl, below_draws hb0 _⟩
    · have hf : pairsB n m = false := decide_eq_false (by
          intro h
          apply h1
          rw [h, Nat.mul_mod_right])
      rw [hf]
      have hd2 : (((m % n : Nat) : Int) == 0) = false := beq_eq_false_iff_ne.2 (by omega)
      generalize m % n = q at *
      clear hf h1 t2 hq
      go_enter Tryz.func43, Tryz.ntmps43
      go_wp2_with fail
      clear hW0
      go_quiet (fail)
      go_wp2
      go_ret
      exact ⟨rfl, below_draws hb0 _⟩
/-- One element of Next. -/
def nextS (n : Nat) (zs : List Int) (i j : Int) : Int := if (0 ≤ i ∧ i < n) ∧ (0 ≤ j ∧ j < n) ∧ zs.length = n * n then zs.getD (i.toNat * n + j.toNat) 1 else 1
theorem implHasNode (a b : Option Addr) (ca cb n m : Nat) (i : Int) (w : World) :
    Calls Tryz.prog 49 #[heV a n ca b m cb, .int .i64 i] w (GaveX (.bool (decide (0 ≤ i) && decide (i < n))) w) := by
  obtain ⟨W0, hW0, hb0, hs0, hA0⟩ := one_box2 w (.slice a n ca) (.slice b m cb) 27
  obtain ⟨c0, c1⟩ := hA0
  cases h : decide (0 ≤ i) with
  | false =>
    go_enter Tryz.func49, Tryz.ntmps49
    go_wp2
    go_ret
    exact ⟨rfl, hb0⟩
  | true =>
    go_enter Tryz.func49, Tryz.ntmps49
    go_wp2
    go_ret
    exact ⟨rfl, hb0⟩
theorem at_pair {n i j : Nat} (hi : i < n) (hj : j < n) : i * n + j < n * n := by
  have : (i + 1) * n ≤ n * n := Nat.mul_le_mul_right n hi
  rw [Nat.add_mul, Nat.one_mul] at this
  omega
theorem nextS_at {n i j : Nat} {zs : List Int} (hi : i < n) (hj : j < n) (hm : zs.length = n * n) (h : i * n + j < zs.length) : nextS n zs i j = zs[i * n + j] := by
  unfold nextS
  rw [if_pos ⟨⟨by omega, by omega⟩, ⟨by omega, by omega⟩, hm⟩]
  simp [h]
set_option maxHeartbeats 1600000 in
theorem implNextOf (a b : Option Addr) (ca cb n : Nat) (zs : List Int) (i j : Int) (w : World) (hn : n ≤ 1048576) (hm : zs.length ≤ maxLen) (hrow : Row w w.heap.size b (intVals zs)) :
    Calls Tryz.prog 14 #[heV a n ca b zs.length cb, .int .i64 i, .int .i64 j] w (GaveX (.int .i64 (nextS n zs i j)) w) := by
  obtain ⟨W0, hW0, hb0, hs0, hA0⟩ := one_box2 w (.slice a n ca) (.slice b zs.length cb) 27
  have HA := Lib.hid (fun (W : World) (h : Below W0.heap.size W0 W) => And.intro (hA0.keep hs0 h) (hb0.trans (h.mono hb0.size)))
  obtain ⟨c0, c1⟩ := hA0
  have hnl : n ≤ maxLen := by unfold maxLen; omega
  obtain ⟨r, hr⟩ : ∃ r, nextS n zs i j = r := ⟨_, rfl⟩
  rw [hr]
  have HR := Lib.hid hr
  clear hr
  go_enter Tryz.func14, Tryz.ntmps14
  go_wp2_with fail
  refine (implHasNode a b ca cb n zs.length i _).mono ?_
  rintro e w1 ⟨rfl, hb1⟩
  obtain ⟨⟨d0, d1⟩, hB1⟩ := HA.out _ hb1
  clear c0 c1 hW0
  cases h1 : (decide (0 ≤ i) && decide (i < n)) with
  | false =>
    have HE := Lib.hid (show r = 1 by
      rw [← HR.out]
      unfold nextS
      rw [if_neg]
      rintro ⟨⟨p, q⟩, _⟩
      rw [decide_eq_true p, decide_eq_true q] at h1
      cases h1)
    clear h1
    go_wp2
    go_ret
    exact ⟨by rw [HE.out]; rfl, hB1⟩
  | true =>
    go_wp2_with fail
    refine (implHasNode a b ca cb n zs.length j _).mono ?_
    rintro e w2 ⟨rfl, hb2⟩
    have hb02 := hb1.trans (hb2.mono hb1.size)
    clear d0 d1
    obtain ⟨⟨d0, d1⟩, hB2⟩ := HA.out _ hb02
    cases h2 : (decide (0 ≤ j) && decide (j < n)) with
    | false =>
      have HE := Lib.hid (show r = 1 by
        rw [← HR.out]
        unfold nextS
        rw [if_neg]
        rintro ⟨_, ⟨p, q⟩, _⟩
        rw [decide_eq_true p, decide_eq_true q] at h2
        cases h2)
      clear h1 h2
      go_wp2
      go_ret
      exact ⟨by rw [HE.out]; rfl, hB2⟩
    | true =>
      go_wp2_with fail
      refine (implAllPairs a b ca cb n zs.length _ hnl hm).mono ?_
      rintro e w3 ⟨rfl, hb3⟩
      have hb03 := hb02.trans (hb3.mono hb02.size)
      clear d0 d1
      obtain ⟨⟨d0, d1⟩, hB3⟩ := HA.out _ hb03
      cases h3 : pairsB n zs.length with
      | false =>
        have HE := Lib.hid (show r = 1 by
          rw [← HR.out]
          unfold nextS
          rw [if_neg]
          rintro ⟨_, _, p⟩
          rw [pairsB, decide_eq_true p] at h3
          cases h3)
        clear h1 h2 h3
        go_wp2
        go_ret
        exact ⟨by rw [HE.out]; rfl, hB3⟩
      | true =>
        simp only [Bool.and_eq_true, decide_eq_true_eq, pairsB] at h1 h2 h3
        obtain ⟨i', rfl⟩ : ∃ i' : Nat, i = (i' : Int) := ⟨i.toNat, by omega⟩
        obtain ⟨j', rfl⟩ : ∃ j' : Nat, j = (j' : Int) := ⟨j.toNat, by omega⟩
        have hi : i' < n := by omega
        have hj : j' < n := by omega
        have hlt : i' * n + j' < zs.length := by rw [h3]; exact at_pair hi hj
        have hp : i' * n ≤ n * n := Nat.mul_le_mul_right n (Nat.le_of_lt hi)
        have hq : n * n ≤ 1048576 * 1048576 := Nat.mul_le_mul hn hn
        have HE := Lib.hid (show r = zs[i' * n + j'] by rw [← HR.out]; exact nextS_at hi hj h3 hlt)
        obtain ⟨bb, bo, rfl, hbb, hcb⟩ := hrow (i' * n + j') _ (intVals_at zs _ hlt)
        have hc3 := (hB3.cell (p := ⟨bb, bo + (i' * n + j'), none⟩) hbb).trans hcb
        have ep : (i' : Int) * (n : Int) = ((i' * n : Nat) : Int) := (Int.natCast_mul i' n).symm
        generalize i' * n = p at *
        generalize n * n = q at *
        clear h1 h2 hcb hrow
        go_wp2
        go_ret
        exact ⟨by rw [HE.out]; rfl, hB3⟩
set_option maxHeartbeats 1600000 in
theorem specNextOf (a b : Option Addr) (ca cb n : Nat) (zs : List Int) (i j : Int) (w : World) (hn : n ≤ 1048576) (hm : zs.length ≤ maxLen) (hrow : Row w w.heap.size b (intVals zs)) :
    Calls Tryz.prog 15 #[heV a n ca b zs.length cb, .int .i64 i, .int .i64 j] w (GaveX (.int .i64 (nextS n zs i j)) w) := by
  obtain ⟨W0, hW0, hb0, hs0, hA0⟩ := one_box2 w (.slice a n ca) (.slice b zs.length cb) 27
  obtain ⟨c0, c1⟩ := hA0
  obtain ⟨r, hr⟩ : ∃ r, nextS n zs i j = r := ⟨_, rfl⟩
  rw [hr]
  have HR := Lib.hid hr
  clear hr
  have hq : n * n ≤ 1048576 * 1048576 := Nat.mul_le_mul hn hn
  have en : (n : Int) * (n : Int) = ((n * n : Nat) : Int) := (Int.natCast_mul n n).symm
  unfold maxLen at hm
  have HN := Lib.hid hn
  have HI := Lib.hid (fun W => specInT i 0 ((n : Int) - 1) W)
  have HJ := Lib.hid (fun W => specInT j 0 ((n : Int) - 1) W)
  go_enter Tryz.func15, Tryz.ntmps15
  go_wp2_with fail
  clear hW0
  refine (HI.out _).mono ?_
  rintro e w1 ⟨rfl, rfl⟩
  cases h1 : (decide (0 ≤ i) && decide (i ≤ (n : Int) - 1)) with
  | false =>
    have HE := Lib.hid (show r = 1 by
      rw [← HR.out]
      unfold nextS
      rw [if_neg]
      rintro ⟨⟨p, q⟩, _⟩
      rw [decide_eq_true p, decide_eq_true (by omega : i ≤ (n : Int) - 1)] at h1
      cases h1)
    clear h1
    go_wp2
    go_ret
    exact ⟨by rw [HE.out]; rfl, hb0⟩
  | true =>
    go_wp2_with fail
    refine (HJ.out _).mono ?_
    rintro e w2 ⟨rfl, rfl⟩
    cases h2 : (decide (0 ≤ j) && decide (j ≤ (n : Int) - 1)) with
    | false =>
      have HE := Lib.hid (show r = 1 by
        rw [← HR.out]
        unfold nextS
        rw [if_neg]
        rintro ⟨_, ⟨p, q⟩, _⟩
        rw [decide_eq_true p, decide_eq_true (by omega : j ≤ (n : Int) - 1)] at h2
        cases h2)
      clear h1 h2
      go_wp2
      go_ret
      exact ⟨by rw [HE.out]; rfl, hb0⟩
    | true =>
      simp only [Bool.and_eq_true, decide_eq_true_eq] at h1 h2
      obtain ⟨i', rfl⟩ : ∃ i' : Nat, i = (i' : Int) := ⟨i.toNat, by omega⟩
      obtain ⟨j', rfl⟩ : ∃ j' : Nat, j = (j' : Int) := ⟨j.toNat, by omega⟩
      have hi : i' < n := by omega
      have hj : j' < n := by omega
      by_cases h3 : zs.length = n * n
      · have hlt : i' * n + j' < zs.length := by rw [h3]; exact at_pair hi hj
        have hp : i' * n ≤ n * n := Nat.mul_le_mul_right n (Nat.le_of_lt hi)
        have HE := Lib.hid (show r = zs[i' * n + j'] by rw [← HR.out]; exact nextS_at hi hj h3 hlt)
        obtain ⟨bb, bo, rfl, hbb, hcb⟩ := hrow (i' * n + j') _ (intVals_at zs _ hlt)
        have hc3 := (hb0.cell (p := ⟨bb, bo + (i' * n + j'), none⟩) hbb).trans hcb
        have ep : (i' : Int) * (n : Int) = ((i' * n : Nat) : Int) := (Int.natCast_mul i' n).symm
        have hne : ((zs.length : Int) != ((n * n : Nat) : Int)) = false := by simp [h3]
        generalize i' * n = p at *
        generalize n * n = q at *
        clear h1 h2 hcb hrow
        go_wp2
        go_ret
        exact ⟨by rw [HE.out]; rfl, hb0⟩
      · have HE := Lib.hid (show r = 1 by
          rw [← HR.out]
          unfold nextS
          rw [if_neg]
          rintro ⟨_, _, p⟩
          exact h3 p)
        have hne : ((zs.length : Int) != ((n * n : Nat) : Int)) = true := bne_iff_ne.2 (by omega)
        generalize n * n = q at *
        clear h1 h2
        go_wp2
        go_ret
        exact ⟨by rw [HE.out]; rfl, hb0⟩
/-- .. over a structure. -/
def nextB (s : List ((List Int × List Int) × Int × Int) × List Int) (i j : Int) : Int := nextS s.1.length s.2 i j
theorem nextB_eq (x : St) (i j : Int) : nextB x.body i j = nextS x.ns.length x.zs i j := by simp [nextB, St.body]
theorem implNext (x : St) (i j : Int) (w : World) (h : Small x.body) (_ : x.zs.length ≤ x.cb) (hat : x.At w) :
    Calls Tryz.prog 14 #[x.v, .int .i64 i, .int .i64 j] w (GaveX (.int .i64 (nextB x.body i j)) w) := by
  rw [nextB_eq]
  exact implNextOf _ _ _ _ _ _ _ _ _ h.n1 (small_max h).2.1 hat.next
theorem specNext (x : St) (i j : Int) (w : World) (h : Small x.body) (hat : x.At w) :
    Calls Tryz.prog 15 #[x.v, .int .i64 i, .int .i64 j] w (GaveX (.int .i64 (nextB x.body i j)) w) := by
  rw [nextB_eq]
  exact specNextOf _ _ _ _ _ _ _ _ _ h.n1 (small_max h).2.1 hat.next
end Go.Proofs.YtglcailcdcpadaaGreatDoor
/-
  The program's nodes with their rows of Next: a row of new structs, each with a part of the structure's row.
-/
namespace Go.Proofs.YtglcailcdcpadaaGreatDoor
open Go Go.RowKit Go.ChangeShapes Go.WideShapes Go.ChangeAt

/-- A node with its row of Next. -/
structure Lk where
  n : Nd
  e : Option Addr
  ce : Nat
  es : List Int
abbrev lkC (a : Option Addr) (n ca : Nat) (b : Option Addr) (m cb : Nat) (s q : Int) (e : Option Addr) (l ce : Nat) : Value := .agg #[.slice a n ca, .slice b m cb, .int .i64 s, .int .i64 q, .slice e l ce]
abbrev Lk.v (x : Lk) : Value := lkC x.n.h.a x.n.h.vs.length x.n.h.ca x.n.h.b x.n.h.zs.length x.n.h.cb x.n.s x.n.m x.e x.es.length x.ce
def lkCells (x : Lk) : List Value := [.slice x.n.h.a x.n.h.vs.length x.n.h.ca, .slice x.n.h.b x.n.h.zs.length x.n.h.cb, .int .i64 x.n.s, .int .i64 x.n.m, .slice x.e x.es.length x.ce]
theorem lkCells_length (x : Lk) : (lkCells x).length = 5 := rfl
def zeroNd : Nd := ⟨⟨none, 0, none, 0, [], []⟩, 0, 0⟩
/-- The i-th node of a structure with its row. -/
def linkAt (x : St) (b o : Nat) (i : Nat) : Lk := ⟨x.ns.getD i zeroNd, some ⟨b, o + i * x.ns.length, none⟩, x.cb - i * x.ns.length, (x.zs.drop (i * x.ns.length)).take x.ns.length⟩
def linksTo (x : St) (b o k : Nat) : List Lk := (List.range k).map (linkAt x b o)
theorem linksTo_succ (x : St) (b o k : Nat) : linksTo x b o (k + 1) = linksTo x b o k ++ [linkAt x b o k] := by simp [linksTo, List.range_succ]
theorem linksTo_length (x : St) (b o k : Nat) : (linksTo x b o k).length = k := by simp [linksTo]
theorem row_part {W : World} {B b o : Nat} {zs : List Int} (h : Row W B (some ⟨b, o, none⟩) (intVals zs)) (i n : Nat) : Row W B (some ⟨b, o + i, none⟩) (intVals ((zs.drop i).take n)) := by
  intro k x hx
  have hk : (intVals zs)[i + k]? = some x := by
    simp only [intVals, List.getElem?_map, List.getElem?_take, List.getElem?_drop] at hx ⊢
    split at hx
    · exact hx
    · simp at hx
  obtain ⟨b', o', e, hb, hc⟩ := h (i + k) x hk
  injection e with e
  injection e with e1 e2 _
  subst e1 e2
  exact ⟨b, o + i, rfl, hb, by rw [Nat.add_assoc]; exact hc⟩
theorem lkInfo : (Tryz.prog.info? 71).map (fun i => (i.zero, i.size, i.bytes)) = some (some (.agg #[.slice none 0 0, .slice none 0 0, .int .i64 0, .int .i64 0, .slice none 0 0]), 5, 88) := by kernel_rfl
/-- What linkedNodes answers. -/
def LinksEnd (x : St) (b o : Nat) (w : World) (e : Ending) (w' : World) : Prop :=
  ∃ va vc, e = .returned (.slice va x.ns.length vc) ∧ w'.ownsRow w.heap.size 71 5 (.slice va x.ns.length vc) x.ns.length (fl lkCells (linksTo x b o x.ns.length)) ∧ Below w.heap.size w w'
theorem lit5_news (w : World) (t : TypeId) (u0 u1 u2 u3 u4 : Value) : ∀ (j : Nat) (u : Value), [u0, u1, u2, u3, u4][j]? = some u → (w.alloc (.cells #[u0, u1, u2, u3, u4] t)).cell? ((⟨w.heap.size, 0, none⟩ : Addr).add j) = some u := by
  intro j u hu
  have h := (BoxL.new w [u0, u1, u2, u3, u4] t).c j u hu
  rw [add_plain, Nat.zero_add]
  exact h
theorem lit5_one (a b e : Option Addr) (n ca m cb l ce : Nat) (s q : Int) : ∀ u ∈ [Value.slice a n ca, .slice b m cb, .int .i64 s, .int .i64 q, .slice e l ce], u.oneCell' = true := by
  intro u hu
  simp only [List.mem_cons, List.not_mem_nil, or_false] at hu
  rcases hu with rfl | rfl | rfl | rfl | rfl <;> rfl
/-- A part of a row of numbers. -/
theorem elemInt : Tryz.prog.elem 25 = 3 := by kernel_rfl
theorem sizeInt1 (V : World) : (sizeOf 3).run Tryz.prog V = .ok 1 V := by kernel_rfl
theorem run_part (V : World) (b o len cap m n : Nat) (hn : 0 < n) (h : m + n ≤ cap) :
    (Instr.slice 25 (.slice (some ⟨b, o, none⟩) len cap) (some (.int .i64 (m : Int))) (some (.int .i64 ((m : Int) + (n : Int)))) none).run Tryz.prog V = .ok (.slice (some ⟨b, o + m, none⟩) n (cap - m)) V := by
  have h1 := run_slice_lh (P := Tryz.prog) (w := V) 25 (some ⟨b, o, none⟩) len cap (by rw [elemInt]; exact Tryz.underlying25) .i64 .i64 (m : Int) ((m : Int) + (n : Int)) (by omega) (by omega) (by omega)
  have e1 : ((m : Int)).toNat = m := by omega
  have e2 : ((m : Int) + (n : Int)).toNat = m + n := by omega
  rw [h1, e1, e2, elemInt, sizeInt1]
  show Result.ok (sliced (some ⟨b, o, none⟩) m (m + n) cap 1) V = _
  unfold sliced
  rw [if_neg (by omega), Nat.mul_one, Nat.add_sub_cancel_left]
  simp [Addr.add]
theorem links_nil (w : World) (a : Option Addr) (ca : Nat) (bb : Option Addr) (cb : Nat) (zs : List Int) (b o : Nat) :
    Calls Tryz.prog 44 #[heV a 0 ca bb zs.length cb] w (LinksEnd ⟨a, ca, [], bb, cb, zs⟩ b o w) := by
  have hE : ∀ W, Below w.heap.size w W → LinksEnd ⟨a, ca, [], bb, cb, zs⟩ b o w (.returned (.slice none 0 0)) W := fun W hb => ⟨none, 0, rfl, World.ownsRow_nil _ _ _ _, hb⟩
  have HE := Lib.hid hE
  clear hE
  go_enter Tryz.func44, Tryz.ntmps44
  go_wp2_with fail
  obtain ⟨W0, hW0, hb0, hs0, ⟨c0, c1⟩⟩ := one_box2 w (.slice a 0 ca) (.slice bb zs.length cb) 27
  rw [hW0]
  clear hW0
  go_wp2
  go_loopw [3, 11] (fun v i wr => v = .slice none 0 0 ∧ i = .int .i64 0 ∧ wr = W0) (fun _ _ _ => 0)
  case atStart => exact ⟨rfl, rfl, rfl⟩
  case round =>
    obtain ⟨rfl, rfl, rfl⟩ := hrel
    go_wp2
    go_ret
    exact HE.out _ hb0
theorem link_cells {a : Option Addr} {ca : Nat} {ns : List Nd} {b o cb : Nat} {zs : List Int} {k : Nat} (hlt : k < ns.length) (hsq : k * ns.length + ns.length ≤ zs.length) :
    lkCells (linkAt ⟨a, ca, ns, some ⟨b, o, none⟩, cb, zs⟩ b o k) = [.slice ns[k].h.a ns[k].h.vs.length ns[k].h.ca, .slice ns[k].h.b ns[k].h.zs.length ns[k].h.cb, .int .i64 ns[k].s, .int .i64 ns[k].m, .slice (some ⟨b, o + k * ns.length, none⟩) ns.length (cb - k * ns.length)] := by
  have hnk : ns.getD k zeroNd = ns[k] := by simp [hlt]
  unfold lkCells linkAt
  simp only [hnk]
  have : ((zs.drop (k * ns.length)).take ns.length).length = ns.length := by rw [List.length_take, List.length_drop]; omega
  rw [this]
theorem square_le {k n m : Nat} (h : k < n) (hm : m = n * n) : k * n + n ≤ m := by
  have h2 : (k + 1) * n ≤ n * n := Nat.mul_le_mul_right _ h
  rw [Nat.add_mul, Nat.one_mul] at h2
  omega
set_option maxRecDepth 100000 in
set_option maxHeartbeats 3200000 in
theorem implLinks (ba oa ca : Nat) (ns : List Nd) (b o cb : Nat) (zs : List Int) (w : World) (hn : ns.length ≤ 1048576) (hz : zs.length ≤ 1048576) (hcap : zs.length ≤ cb) (hlen : zs.length = ns.length * ns.length) (hat : St.At w ⟨some ⟨ba, oa, none⟩, ca, ns, some ⟨b, o, none⟩, cb, zs⟩) :
    Calls Tryz.prog 44 #[heV (some ⟨ba, oa, none⟩) ns.length ca (some ⟨b, o, none⟩) zs.length cb] w (LinksEnd ⟨some ⟨ba, oa, none⟩, ca, ns, some ⟨b, o, none⟩, cb, zs⟩ b o w) := by
  obtain ⟨i0, hi, hz0, hz1, hz2⟩ := info_parts lkInfo
  have HAT := Lib.hid (fun (W : World) (h : Below w.heap.size w W) => hat.below h)
  have HLEN := Lib.hid hlen
  clear hat hlen
  go_enter Tryz.func44, Tryz.ntmps44
  go_wp2_with fail
  obtain ⟨W0, hW0, hb0, hs0, hA0⟩ := one_box2 w (.slice (some ⟨ba, oa, none⟩) ns.length ca) (.slice (some ⟨b, o, none⟩) zs.length cb) 27
  rw [hW0]
  clear hW0
  have HA := Lib.hid (fun (W : World) (h : Below W0.heap.size W0 W) => And.intro (hA0.keep hs0 h) (hb0.trans (h.mono hb0.size)))
  obtain ⟨c0, c1⟩ := hA0
  go_wp2
  clear c0 c1
  go_loopw [3, 11] (fun v i wr => ∃ (k : Nat) (va : Option Addr) (vc : Nat), k ≤ ns.length ∧ i = .int .i64 k ∧ v = .slice va k vc ∧ wr.ownsRow W0.heap.size 71 5 v k (fl lkCells (linksTo ⟨some ⟨ba, oa, none⟩, ca, ns, some ⟨b, o, none⟩, cb, zs⟩ b o k)) ∧ Below W0.heap.size W0 wr) (fun _ i _ => ns.length - (intOf i).toNat)
  case atStart => exact ⟨0, none, 0, Nat.zero_le _, rfl, rfl, World.ownsRow_nil _ _ _ _, Below.refl _ _⟩
  case round =>
    obtain ⟨k, va, vc, hk, rfl, rfl, hown, hbw⟩ := hrel
    obtain ⟨⟨d0, d1⟩, hBw⟩ := HA.out _ hbw
    by_cases hlt : k < ns.length
    · obtain ⟨ba', oa', hae, hba, hitem, _⟩ := (HAT.out _ hBw).nodes.item k hlt
      injection hae with hae
      injection hae with e1 e2 _
      subst e1 e2
      have hsq := square_le hlt HLEN.out
      have HLK := Lib.hid (link_cells (a := some ⟨ba, oa, none⟩) (ca := ca) (b := b) (o := o) (cb := cb) hlt hsq)
      simp only at hitem
      generalize ns[k] = y at *
      obtain ⟨p0, p1, p2, p3⟩ := hitem
      have OD := Lib.hid (own_keeps hown (Below.drew (Below.refl _ _)))
      have ep1 : (k : Int) * (ns.length : Int) = ((k * ns.length : Nat) : Int) := (Int.natCast_mul _ _).symm
      have ep2 : ((k : Int) + 1) * (ns.length : Int) = ((k * ns.length + ns.length : Nat) : Int) := by rw [Int.add_mul, Int.one_mul, ep1]; rfl
      have HOWN := Lib.hid hown
      obtain ⟨m, hm⟩ : ∃ m, k * ns.length = m := ⟨_, rfl⟩
      rw [hm] at hsq HLK ep1 ep2
      have HM := Lib.hid hm
      clear hm
      have hlw : w.heap.size < wr.heap.size := Nat.lt_of_lt_of_le hs0 hbw.size
      clear hown
      go_wp2_with fail
      go_quiet (fail)
      go_wp2_with fail
      obtain ⟨W1, hW1⟩ : ∃ W1, (wr.alloc (.cells #[.slice y.h.a y.h.vs.length y.h.ca, .slice y.h.b y.h.zs.length y.h.cb, .int .i64 y.s, .int .i64 y.m] 56)).drewN nq = W1 := ⟨_, rfl⟩
      have hb1 : Below wr.heap.size wr W1 := by rw [← hW1]; exact below_draws ((Below.refl _ _).alloc (Nat.le_refl _) _) _
      have bx1 : BoxL W1 wr.heap.size [.slice y.h.a y.h.vs.length y.h.ca, .slice y.h.b y.h.zs.length y.h.cb, .int .i64 y.s, .int .i64 y.m] := by
        rw [← hW1]
        exact (BoxL.new wr [.slice y.h.a y.h.vs.length y.h.ca, .slice y.h.b y.h.zs.length y.h.cb, .int .i64 y.s, .int .i64 y.m] 56).below (below_draws (Below.refl _ _) _)
      rw [hW1]
      clear hW1
      have q0 := bx1.c 0 _ rfl
      have q1 := bx1.c 1 _ rfl
      have q2 := bx1.c 2 _ rfl
      have q3 := bx1.c 3 _ rfl
      have g1 := (hb1.cell (p := ⟨w.heap.size, 1, none⟩) hlw).trans d1
      have O1 := own_keeps HOWN.out (hb1.trans (Below.drew (Below.refl _ _)))
      have hB1 := hbw.trans (hb1.mono hbw.size)
      have hvc : W0.heap.size ≤ W1.heap.size := hB1.size
      have hsl := fun V => run_part V b o zs.length cb m ns.length (by omega) (by omega)
      clear p0 p1 p2 p3 d0 d1 bx1
      go_region_law (refine step_append_lies _ rfl (.tmp 27) (.tmp 35) 68 rfl W0.heap.size 71 i0 (.agg #[.slice none 0 0, .slice none 0 0, .int .i64 0, .int .i64 0, .slice none 0 0]) 5 88 Tryz.underlying68 hi hz0 hz1 hz2 rfl (by decide) (.slice va k vc) k (fl lkCells (linksTo ⟨some ⟨ba, oa, none⟩, ca, ns, some ⟨b, o, none⟩, cb, zs⟩ b o k)) ?_ (O1.alloc _) ⟨W1.heap.size, 0, none⟩ 1 1 [.slice y.h.a y.h.vs.length y.h.ca, .slice y.h.b y.h.zs.length y.h.cb, .int .i64 y.s, .int .i64 y.m, .slice (some ⟨b, o + m, none⟩) ns.length (cb - m)] ?_ rfl (lit5_news W1.drew _ _ _ _ _ _) (lit5_one _ _ _ _ _ _ _ _ _ _ _) (by omega) ?_ ?_ ?_ _ rfl ?_
                     · simp [Act.eval]
                     · simp [Act.eval]
                     · unfold maxLen; omega
                     · omega
                     · simp; omega
                     intro g9 cap9 w9 hown9 hg9 hat9 hlt9)
      all_goals
        have hE : w9.ownsRow W0.heap.size 71 5 (.slice (some ⟨g9, 0, none⟩) (k + 1) cap9) (k + 1) (fl lkCells (linksTo ⟨some ⟨ba, oa, none⟩, ca, ns, some ⟨b, o, none⟩, cb, zs⟩ b o (k + 1))) := by
          rw [linksTo_succ, fl_snoc, HLK.out]
          exact hown9
        have hbE : Below W0.heap.size W0 w9 := (hB1.drew.alloc (by simp; omega) _).grown hg9 (by simp; omega) (fun q hq => (O1.lt q hq).1)
        have HE := Lib.hid hE
        have HBE := Lib.hid hbE
        clear hE hbE hown9 hg9 hat9 O1 q0 q1 q2 q3 g1 hsl
        go_wp2
        go_roundw
        case rel => exact ⟨k + 1, some ⟨g9, 0, none⟩, cap9, by omega, by go_num, rfl, HE.out, HBE.out⟩
        case measure => simp [intOf]; omega
    · have hk' : k = ns.length := by omega
      subst hk'
      have HE := Lib.hid (show LinksEnd ⟨some ⟨ba, oa, none⟩, ca, ns, some ⟨b, o, none⟩, cb, zs⟩ b o w (.returned (.slice va ns.length vc)) wr from ⟨va, vc, rfl, own_base hown hb0.size, hBw⟩)
      clear hown
      go_wp2
      go_ret
      exact HE.out
end Go.Proofs.YtglcailcdcpadaaGreatDoor
