/-
  Pairs of nodes at the same place of two formulas: when they are alike, their parts, as keys of a map.
-/
import Derived.Laws.StructEq
import Derived.Test.YtplchhahjmoodaaGreatDoorZ22
namespace Go.Proofs.YtplchhahjmoodaaGreatDoor
open Go Go.RowKit Go.ChangeAt Go.ChangeShapes Go.WideShapes

abbrev Tw := Loc × Loc
def alikeT (x : Tw) : Prop := x.1.2.kd = x.2.2.kd ∧ x.1.2.k = x.2.2.k ∧ x.1.2.u = x.2.2.u ∧ x.1.2.v = x.2.2.v ∧ x.1.2.args.length = x.2.2.args.length
instance (x : Tw) : Decidable (alikeT x) := inferInstanceAs (Decidable (_ ∧ _ ∧ _ ∧ _ ∧ _))
def stepsT (x : Tw) : List Tw := if alikeT x then (kids x.1).zip (kids x.2) else []
def twV (x : Tw) : Value := .agg #[.pointer (some x.1.1), .pointer (some x.2.1)]
def twCells (x : Tw) : List Value := [.pointer (some x.1.1), .pointer (some x.2.1)]
def twAddr (x : Tw) : Addr × Addr := (x.1.1, x.2.1)
theorem twCells_length (x : Tw) : (twCells x).length = 2 := rfl
theorem tw_flat_length (l : List Tw) : (l.flatMap twCells).length = l.length * 2 := by
  induction l with
  | nil => rfl
  | cons x l ih => rw [List.flatMap_cons, List.length_append, ih, twCells_length, List.length_cons]; omega
theorem tw_flat_at : ∀ (l : List Tw) (i : Nat) (h : i < l.length), (l.flatMap twCells)[i * 2]? = some (.pointer (some l[i].1.1)) ∧ (l.flatMap twCells)[i * 2 + 1]? = some (.pointer (some l[i].2.1))
  | x :: l, 0, _ => ⟨rfl, rfl⟩
  | x :: l, i + 1, h => by
    have ih := tw_flat_at l i (by simpa using h)
    rw [List.flatMap_cons, List.getElem?_append_right (by rw [twCells_length]; omega), List.getElem?_append_right (by rw [twCells_length]; omega), twCells_length, show (i + 1) * 2 - 2 = i * 2 by omega, show (i + 1) * 2 + 1 - 2 = i * 2 + 1 by omega]
    simpa using ih
theorem tw_flat_snoc (l : List Tw) (x : Tw) : (l ++ [x]).flatMap twCells = l.flatMap twCells ++ twCells x := by simp

/-! ### What a walk over pairs tells -/
theorem alike_of_er {x : Tw} (h : x.1.2.er = x.2.2.er) : alikeT x := by
  obtain ⟨h1, h2, h3, h4⟩ := er_num h
  exact ⟨h1, h2, h3, h4, er_len h⟩
theorem steps_er {x y : Tw} (h : x.1.2.er = x.2.2.er) (hy : y ∈ stepsT x) : y.1.2.er = y.2.2.er := by
  rw [stepsT, if_pos (alike_of_er h)] at hy
  obtain ⟨i, hi, rfl⟩ := List.mem_iff_getElem.1 hy
  have hl := er_len h
  rw [List.length_zip, kids_length, kids_length] at hi
  have h1 : i < x.1.2.args.length := by omega
  have h2 : i < x.2.2.args.length := by omega
  have := er_part h i h1 h2
  simpa [kids] using this
theorem steps_mem {x y : Tw} (hy : y ∈ stepsT x) : y.1 ∈ kids x.1 ∧ y.2 ∈ kids x.2 := by
  unfold stepsT at hy
  split at hy
  · exact ⟨(List.of_mem_zip hy).1, (List.of_mem_zip hy).2⟩
  · cases hy
theorem er_of_alike {L : List Tw} (hc : ∀ x ∈ L, ∀ y ∈ stepsT x, y ∈ L) (ha : ∀ x ∈ L, alikeT x) : ∀ (t : Ft) (p : Addr) (z : Loc), ((p, t), z) ∈ L → t.er = z.2.er := by
  apply Ft.ind (P := fun t => ∀ (p : Addr) (z : Loc), ((p, t), z) ∈ L → t.er = z.2.er)
  intro t ih p z h
  obtain ⟨h1, h2, h3, h4, h5⟩ := ha _ h
  simp only at h1 h2 h3 h4 h5
  rw [Ft.er_eq, Ft.er_eq z.2, h1, h2, h3, h4]
  congr 1
  apply List.ext_getElem (by simp [h5])
  intro i g1 g2
  rw [List.length_map] at g1 g2
  simp only [List.getElem_map]
  refine ih _ (List.getElem_mem g1) (kidAt t.a i) (kidAt z.2.a i, z.2.args[i]) (hc _ h _ ?_)
  rw [stepsT, if_pos (ha _ h)]
  refine List.mem_iff_getElem.2 ⟨i, by rw [List.length_zip, kids_length, kids_length]; simp; omega, by simp [kids]⟩
/-- All pairs. -/
def prodT (A B : List Loc) : List Tw := A.flatMap fun a => B.map fun b => (a, b)
theorem prod_mem {A B : List Loc} {x : Tw} : x ∈ prodT A B ↔ x.1 ∈ A ∧ x.2 ∈ B := by
  obtain ⟨a, b⟩ := x
  simp [prodT]
theorem prod_length (A B : List Loc) : (prodT A B).length = A.length * B.length := by
  induction A with
  | nil => simp [prodT]
  | cons a A ih =>
    have : prodT (a :: A) B = B.map (fun b => (a, b)) ++ prodT A B := rfl
    rw [this, List.length_append, ih, List.length_map, List.length_cons, Nat.add_mul, Nat.one_mul, Nat.add_comm]
theorem prod_nodup {A B : List Loc} (hA : (A.map Prod.fst).Nodup) (hB : (B.map Prod.fst).Nodup) : ((prodT A B).map twAddr).Nodup := by
  induction A with
  | nil => exact List.nodup_nil
  | cons a A ih =>
    rw [List.map_cons, List.nodup_cons] at hA
    have e : prodT (a :: A) B = B.map (fun b => (a, b)) ++ prodT A B := rfl
    rw [e, List.map_append]
    refine List.nodup_append.2 ⟨?_, ih hA.2, fun p hp q hq e => ?_⟩
    · rw [List.map_map]
      refine map_nodup_of (g := twAddr ∘ fun b => (a, b)) hB fun x _ y _ h => ?_
      injection h
    · obtain ⟨x, hx, rfl⟩ := List.mem_map.1 hp
      obtain ⟨y, hy, rfl⟩ := List.mem_map.1 hq
      obtain ⟨b, hb, rfl⟩ := List.mem_map.1 hx
      have hy1 := (prod_mem.1 hy).1
      have : a.1 = y.1.1 := by injection e
      exact hA.1 (this ▸ List.mem_map.2 ⟨y.1, hy1, rfl⟩)

/-! ### As keys -/
def TwOk (bs : Nat → Prop) (v : Value) : Prop := ∃ a b : Addr, v = .agg #[.pointer (some a), .pointer (some b)] ∧ bs a.block ∧ bs b.block
theorem part_a (p q : Value) (w : World) : (part 63 #[p, q] 0).run Tryz.prog w = .ok p w := by kernel_rfl
theorem part_b (p q : Value) (w : World) : (part 63 #[p, q] 1).run Tryz.prog w = .ok q w := by kernel_rfl
theorem run_check_two {P : Program} {t k e : TypeId} {fs : Array Field} {f0 f1 : Field} (ht : P.underlying t = some (.struct fs)) (hfs : fs.toList = [f0, f1]) (hk : P.underlying k = some (.pointer e)) (t0 : f0.type = k) (t1 : f1.type = k) (o0 : f0.offset = 0) (o1 : f1.offset = 1)
    (hp0 : ∀ p q w, (part k #[p, q] 0).run P w = .ok p w) (hp1 : ∀ p q w, (part k #[p, q] 1).run P w = .ok q w) (em : Bool) (n : Nat) (w : World) (a b : Addr) : (Instr.checkKey em (n + 2) t (.agg #[.pointer (some a), .pointer (some b)])).run P w = .ok () w := by
  unfold Instr.checkKey
  simp only [Sem.run_bind, run_underlying ht, Result.andThen_ok]
  rw [← Array.forIn_toList, hfs]
  simp only [List.forIn_cons, List.forIn_nil, t0, t1, o0, o1, Sem.run_bind, Sem.run_ite, hp0, check_ptr hk, Result.andThen_ok, Sem.run_pure]
  split <;> split <;> simp [Sem.run_pure, hp1, check_ptr hk, Result.andThen]
theorem run_eq_two {P : Program} {t k e : TypeId} {m : Nat} {fs : Array Field} {f0 f1 : Field} (ht : P.underlying t = some (.struct fs)) (hfs : fs.toList = [f0, f1]) (hst : P.stoodInHeld t = false) (hk : P.underlying k = some (.pointer e)) (hsz : ∀ w, (sizeOf e).run P w = .ok (m + 1) w)
    (n0 : f0.name ≠ "_") (n1 : f1.name ≠ "_") (t0 : f0.type = k) (t1 : f1.type = k) (o0 : f0.offset = 0) (o1 : f1.offset = 1)
    (hp0 : ∀ p q w, (part k #[p, q] 0).run P w = .ok p w) (hp1 : ∀ p q w, (part k #[p, q] 1).run P w = .ok q w) (bs : Nat → Prop) (d : Nat) (w : World) (x y : Value) (hg : AllPlain bs w) (hx : TwOk bs x) (hy : TwOk bs y) :
    ∃ r : Bool, (Op.equalIn (d + 2) t x y).run P w = .ok r w ∧ (r = true ↔ x = y) := by
  obtain ⟨a, b, rfl, ha, hb⟩ := hx
  obtain ⟨c, f, rfl, hc, hd⟩ := hy
  obtain ⟨r1, e1, i1⟩ := equal_ptr (P := P) hk hsz bs d w (.pointer (some a)) (.pointer (some c)) hg ⟨_, rfl, ha⟩ ⟨_, rfl, hc⟩
  obtain ⟨r2, e2, i2⟩ := equal_ptr (P := P) hk hsz bs d w (.pointer (some b)) (.pointer (some f)) hg ⟨_, rfl, hb⟩ ⟨_, rfl, hd⟩
  have hF : P.fieldsOf t = fs := by
    unfold Program.fieldsOf
    rw [ht]
  have hs := run_equalIn_struct (P := P) w (d + 1) t #[.pointer (some a), .pointer (some b)] #[.pointer (some c), .pointer (some f)] (by rw [hF]; exact ht) hst
  rw [hF, hfs] at hs
  rw [hs]
  simp only [Op.eqFields, t0, o0, t1, o1, if_pos n0, if_pos n1, Sem.run_bind, hp0, Result.andThen_ok, e1]
  cases r1
  · refine ⟨false, by simp [Sem.run_pure], ?_⟩
    have h1 : ¬ Value.pointer (some a) = Value.pointer (some c) := fun e => by have := i1.2 e; cases this
    constructor
    · intro h; cases h
    · intro h
      injection h with h
      injection h with h
      simp only [List.cons.injEq, and_true] at h
      exact absurd h.1 h1
  · cases r2
    · refine ⟨false, by simp [Sem.run_pure, hp1, e2, Result.andThen], ?_⟩
      have h1 : ¬ Value.pointer (some b) = Value.pointer (some f) := fun e => by have := i2.2 e; cases this
      constructor
      · intro h; cases h
      · intro h
        injection h with h
        injection h with h
        simp only [List.cons.injEq, and_true] at h
        exact absurd h.2 h1
    · exact ⟨true, by simp [Sem.run_pure, hp1, e2, Result.andThen], fun _ => by rw [i1.1 rfl, i2.1 rfl], fun _ => rfl⟩
theorem tw_stood : Tryz.prog.stoodInHeld 65 = false := by kernel_rfl
theorem tw_key (bs : Nat → Prop) : PKey Tryz.prog 65 (AllPlain bs) (TwOk bs) where
  check w em v h := by
    obtain ⟨a, b, rfl, _, _⟩ := h
    exact run_check_two Tryz.underlying65 rfl Tryz.underlying63 rfl rfl rfl rfl part_a part_b em 9998 w a b
  eq w x y hg hx hy := run_eq_two Tryz.underlying65 rfl tw_stood Tryz.underlying63 size_fm (by decide) (by decide) rfl rfl rfl rfl part_a part_b bs 9998 w x y hg hx hy
  now d hd a b := by
    rw [Tryz.underlying65] at hd
    cases hd
    cases a <;> cases b <;> rfl
  row := ⟨_, Tryz.underlying65⟩
end Go.Proofs.YtplchhahjmoodaaGreatDoor
