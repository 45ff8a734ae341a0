/-
  Which formulas are formulas; the model's walks: numbers of logic variables, what is left of an allowance, the form of each node, all three together.
-/
import Derived.Test.YthhhmlohfhioeaaDoorSpecTree
import Derived.Test.YthhhmlohfhioeaaDoorForms
namespace Go.Proofs.YthhhmlohfhioeaaDoor
open Go Go.RowKit

/-- The number of logic variables that a kind uses. -/
def usesF (k : Int) : Int := if k = 2 ∨ k = 3 ∨ k = 4 ∨ k = 11 ∨ k = 12 then 1 else if k = 5 ∨ k = 6 ∨ k = 7 then 2 else 0
/-- The fields that a kind uses are valid, the others zero. -/
def fieldsB (vars kd k u v : Int) : Bool :=
  if kd = 1 ∨ kd = 8 ∨ kd = 9 ∨ kd = 10 then decide (k = 0 ∧ u = 0 ∧ v = 0) else
  if kd = 2 ∨ kd = 3 then decide (0 ≤ k ∧ k < vars ∧ 0 ≤ u ∧ u < 4 ∧ v = 0) else
  if kd = 4 ∨ kd = 11 ∨ kd = 12 then decide (k = 0 ∧ 0 ≤ u ∧ u < 4 ∧ v = 0) else
  if kd = 5 ∨ kd = 6 ∨ kd = 7 then decide (k = 0 ∧ 0 ≤ u ∧ u < 4 ∧ 0 ≤ v ∧ v < 4) else false
def nodeB (vars kd k u v : Int) (n : Nat) : Bool := decide ((n : Int) = arityF kd) && fieldsB vars kd k u v
mutual
def Fm.formB (vars : Int) : Fm → Bool
  | .mk kd k u v pp => nodeB vars kd k u v pp.length && Fm.formsB vars pp
def Fm.formsB (vars : Int) : List Fm → Bool
  | [] => true
  | t :: ts => t.formB vars && Fm.formsB vars ts
end
theorem Fm.formsB_all (vars : Int) : ∀ ts : List Fm, Fm.formsB vars ts = ts.all (Fm.formB vars)
  | [] => rfl
  | t :: ts => by rw [Fm.formsB, Fm.formsB_all vars ts, List.all_cons]
theorem Fm.formB_eq (vars : Int) (t : Fm) : t.formB vars = (nodeB vars t.kd t.k t.u t.v t.args.length && t.args.all (Fm.formB vars)) := by
  cases t
  rw [Fm.formB, Fm.formsB_all]
  rfl
theorem nodeB_iff (vars kd k u v : Int) (n : Nat) : nodeB vars kd k u v n = true ↔ (usesF kd < 1 → u = 0) ∧ (usesF kd < 2 → v = 0) ∧ (¬ (kd = 2 ∨ kd = 3) → k = 0) ∧ (kd = 2 ∨ kd = 3 → 0 ≤ k ∧ k < vars) ∧ (0 ≤ u ∧ u ≤ 3) ∧ (0 ≤ v ∧ v ≤ 3) ∧ (n : Int) = arityF kd := by
  unfold nodeB fieldsB usesF
  rcases kind_cases kd with h | h | h | h | h | h | h | h | h | h | h | h | h
  all_goals first
    | (subst h; simp [arityF]; omega)
    | skip
  have ha : arityF kd = -1 := by
    unfold arityF
    rw [if_neg (by omega), if_neg (by omega), if_neg (by omega)]
  rw [ha]
  have : ¬ (n : Int) = -1 := by omega
  simp [this]

set_option maxHeartbeats 800000 in
theorem specUses (k : Int) (w : World) : Calls Tryd.prog 60 #[.int .i64 k] w fun e w' => e = .returned (.int .i64 (usesF k)) ∧ w' = w := by
  rcases kind_cases k with h | h | h | h | h | h | h | h | h | h | h | h | h
  all_goals first
    | (subst h
       go_enter Tryd.func60, Tryd.ntmps60
       go_wp2_with fail
       go_ret
       exact ⟨rfl, rfl⟩)
    | skip
  have hu : usesF k = 0 := by
    unfold usesF
    rw [if_neg (by omega), if_neg (by omega)]
  rw [hu]
  have n2 : (k == 2) = false := beq_eq_false_iff_ne.2 (by omega)
  have n3 : (k == 3) = false := beq_eq_false_iff_ne.2 (by omega)
  have n4 : (k == 4) = false := beq_eq_false_iff_ne.2 (by omega)
  have n5 : (k == 5) = false := beq_eq_false_iff_ne.2 (by omega)
  have n6 : (k == 6) = false := beq_eq_false_iff_ne.2 (by omega)
  have n7 : (k == 7) = false := beq_eq_false_iff_ne.2 (by omega)
  have n11 : (k == 11) = false := beq_eq_false_iff_ne.2 (by omega)
  have n12 : (k == 12) = false := beq_eq_false_iff_ne.2 (by omega)
  clear h hu
  go_enter Tryd.func60, Tryd.ntmps60
  go_wp2_with fail
  go_ret
  exact ⟨rfl, rfl⟩

/-- What is left of an allowance. -/
def leftOf (s left : Nat) : Int := if s ≤ left then (left : Int) - s else -1
set_option maxHeartbeats 800000 in
theorem specLeft : ∀ x : Ft, ∀ (left : Nat) (w : World), left ≤ 1099511627776 → x.args.length ≤ maxLen → x.Short → x.In w w.heap.size → Calls Tryd.prog 35 #[x.val, .int .i64 left] w (GaveB (.int .i64 (leftOf x.er.size left)) w) := by
  apply Ft.ind
  intro x ih left w hl hlen hs hin
  unfold maxLen at hlen
  have hs' := (Ft.short_iff x).1 hs
  have hz := x.size_er
  have hsum : ∀ k, Fm.sizes ((x.args.take k).map Ft.er) ≤ Fm.sizes (x.args.map Ft.er) := fun k => Ft.sizes_le x.args k
  have HSUM := Lib.hid hsum
  have IH := Lib.hid (fun (k : Nat) (hk : k < x.args.length) (l : Nat) (W : World) (hl : l ≤ 1099511627776) (hb : Below w.heap.size w W) => ih x.args[k] (List.getElem_mem hk) l W hl ((Ft.short_iff _).1 (hs'.2 _ (List.getElem_mem hk))).1 (hs'.2 _ (List.getElem_mem hk)) ((hin.part (List.getElem_mem hk)).to hb))
  have HROW := Lib.hid hin.row
  have HZ := Lib.hid hz
  clear ih hin hz hs hs' hsum
  obtain ⟨res, hres⟩ : ∃ r, leftOf x.er.size left = r := ⟨_, rfl⟩
  rw [hres]
  have HRES := Lib.hid hres
  clear hres
  go_enter Tryd.func35, Tryd.ntmps35
  go_wp2_with fail
  go_loopw [1, 5] (fun n i wr => ∃ (k : Nat) (l : Int), k ≤ x.args.length ∧ i = .int .i64 k ∧ n = .int .i64 l ∧ -1 ≤ l ∧ l ≤ (left : Int) ∧ (0 ≤ l → l + Fm.sizes ((x.args.take k).map Ft.er) + 1 = left) ∧ (l < 0 → left < Fm.sizes ((x.args.take k).map Ft.er) + 1) ∧ Below (w.heap.size + 1) (w.alloc (.cells #[.int .i64 x.kd, .int .i64 x.k, .int .i64 x.u, .int .i64 x.v, .slice x.a x.args.length x.cap] 32)) wr) (fun _ i _ => x.args.length - (intOf i).toNat)
  case atStart => exact ⟨0, (left : Int) - 1, Nat.zero_le _, rfl, by go_num, by omega, by omega, fun _ => by simp [Fm.sizes], fun _ => by simp [Fm.sizes]; omega, Below.refl _ _⟩
  case round =>
    obtain ⟨k, l, hk, rfl, rfl, hl1, hl2, hl3, hl4, hb0⟩ := hrel
    have hb : Below w.heap.size w wr := ((Below.refl _ _).alloc (Nat.le_refl _) _).trans (hb0.mono (Nat.le_succ _))
    have e4 : wr.cell? ⟨w.heap.size, 4, none⟩ = some (.slice x.a x.args.length x.cap) := by
      rw [hb0.cell (p := ⟨w.heap.size, 4, none⟩) (Nat.lt_succ_self _)]
      simp [go_sem]
    have hs1 : w.heap.size + 1 ≤ wr.heap.size := by have := hb0.size; simpa using this
    have H3 := Lib.hid hl3
    have H4 := Lib.hid hl4
    clear hl3 hl4
    by_cases hlt : k < x.args.length
    · have hdk : decide ((k : Int) < (x.args.length : Int)) = true := decide_eq_true (by omega)
      by_cases hneg : l < 0
      · have hneg' : decide (0 ≤ l) = false := decide_eq_false (by omega)
        go_wp2_with fail
        go_ret
        refine ⟨congrArg (fun n : Int => Ending.returned (.int .i64 n)) ?_, hb⟩
        have h1 := HRES.out
        have h2 := H4.out hneg
        have h3 := HSUM.out k
        have h4 := HZ.out
        rw [← h1, leftOf, if_neg (by omega)]
        omega
      · obtain ⟨l', rfl⟩ : ∃ l' : Nat, l = (l' : Int) := ⟨l.toNat, by omega⟩
        have hneg' : decide (0 ≤ (l' : Int)) = true := decide_eq_true (by omega)
        obtain ⟨b, o, ha, hbW, hE0⟩ := HROW.out.node k hlt
        obtain ⟨c0, c1, c2, c3, c4⟩ := hE0.below hb hbW
        rw [ha] at e4
        have HI := Lib.hid (IH.out k hlt)
        have HNX := Lib.hid (Ft.sizes_take x.args k hlt)
        generalize x.args[k] = y at *
        have HHA := Lib.hid ha
        have hl'' : l' ≤ 1099511627776 := by omega
        clear hE0 ha
        go_wp2_with fail
        refine (HI.out l' _ hl'' hb).mono ?_
        rintro e w1 ⟨rfl, hb1⟩
        have hB := hb0.trans (hb1.mono hs1)
        obtain ⟨r, hr⟩ : ∃ r, leftOf y.er.size l' = r := ⟨_, rfl⟩
        rw [hr]
        have HR := Lib.hid hr
        clear hr
        go_wp2_with fail
        go_roundw
        case rel =>
          have h1 := HR.out
          have h2 := H3.out (by omega)
          have h3 := HNX.out
          have h5 := y.er.size_pos
          unfold leftOf at h1
          refine ⟨k + 1, r, by omega, by go_num, rfl, ?_, ?_, fun h => ?_, fun h => ?_, hB⟩
          all_goals split at h1 <;> omega
        case measure => simp [intOf]; omega
    · obtain rfl : k = x.args.length := by omega
      have hdk : decide ((x.args.length : Int) < (x.args.length : Int)) = false := decide_eq_false (by omega)
      go_wp2_with fail
      go_ret
      refine ⟨congrArg (fun n : Int => Ending.returned (.int .i64 n)) ?_, hb⟩
      have h1 := HRES.out
      have h2 := H3.out
      have h3 := H4.out
      have h4 := HZ.out
      rw [List.take_length] at h2 h3
      rw [← h1, leftOf]
      split <;> omega
end Go.Proofs.YthhhmlohfhioeaaDoor
