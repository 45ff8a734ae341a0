/-
  Nodes with the logic variables that are bound around them: their parts, what is free in them, as keys of a map.
-/
import Derived.Test.YthhhmlohfhioeaaFreeParts
import Derived.Test.YthhhmlohfhioeaaTwins
namespace Go.Proofs.Ythhhmlohfhioeaa
open Go Go.RowKit Go.ChangeAt Go.ChangeShapes Go.WideShapes

/-- Which of the four logic variables are bound. -/
structure B4 where
  a : Bool
  b : Bool
  c : Bool
  d : Bool
  deriving DecidableEq
def B4.get (x : B4) (i : Int) : Bool := if i = 0 then x.a else if i = 1 then x.b else if i = 2 then x.c else if i = 3 then x.d else false
def B4.put (x : B4) (i : Int) : B4 := if i = 0 then { x with a := true } else if i = 1 then { x with b := true } else if i = 2 then { x with c := true } else if i = 3 then { x with d := true } else x
def B4.cells (x : B4) : List Value := [.bool x.a, .bool x.b, .bool x.c, .bool x.d]
def B4.none_ : B4 := ⟨false, false, false, false⟩
def all16 : List B4 := [false, true].flatMap fun a => [false, true].flatMap fun b => [false, true].flatMap fun c => [false, true].map fun d => ⟨a, b, c, d⟩
theorem all16_mem (x : B4) : x ∈ all16 := by
  obtain ⟨a, b, c, d⟩ := x
  cases a <;> cases b <;> cases c <;> cases d <;> decide
theorem all16_nodup : all16.Nodup := by decide
theorem all16_length : all16.length = 16 := rfl
theorem B4.get_put (x : B4) (u i : Int) (hi : 0 ≤ i ∧ i < 4) : (x.put u).get i = (x.get i || decide (u = i)) := by
  obtain ⟨a, b, c, d⟩ := x
  have h4 : i = 0 ∨ i = 1 ∨ i = 2 ∨ i = 3 := by omega
  unfold B4.put B4.get
  rcases h4 with rfl | rfl | rfl | rfl
  all_goals
    by_cases h0 : u = 0
    · subst h0; simp
    · by_cases h1 : u = 1
      · subst h1; simp
      · by_cases h2 : u = 2
        · subst h2; simp
        · by_cases h3 : u = 3
          · subst h3; simp
          · simp [h0, h1, h2, h3]

abbrev Sc := Loc × B4
/-- What is bound around the parts. -/
def inB (x : Sc) : B4 := if isB x.1.2.kd = true then x.2.put x.1.2.u else x.2
def stepsS (x : Sc) : List Sc := (kids x.1).map fun y => (y, inB x)
theorem stepsS_length (x : Sc) : (stepsS x).length = x.1.2.args.length := by rw [stepsS, List.length_map, kids_length]
def scV (x : Sc) : Value := .agg #[.pointer (some x.1.1), .bool x.2.a, .bool x.2.b, .bool x.2.c, .bool x.2.d]
def scCells (x : Sc) : List Value := [.pointer (some x.1.1), .bool x.2.a, .bool x.2.b, .bool x.2.c, .bool x.2.d]
def scAddr (x : Sc) : Addr × B4 := (x.1.1, x.2)
theorem scCells_length (x : Sc) : (scCells x).length = 5 := rfl
theorem sc_flat_length (l : List Sc) : (l.flatMap scCells).length = l.length * 5 := by
  induction l with
  | nil => rfl
  | cons x l ih => rw [List.flatMap_cons, List.length_append, ih, scCells_length, List.length_cons]; omega
theorem sc_flat_at : ∀ (l : List Sc) (i : Nat) (h : i < l.length) (j : Nat), j < 5 → (l.flatMap scCells)[i * 5 + j]? = (scCells l[i])[j]?
  | x :: l, 0, _, j, hj => by
    rw [List.flatMap_cons, List.getElem?_append_left (by rw [scCells_length]; omega)]
    simp
  | x :: l, i + 1, h, j, hj => by
    have h' : i < l.length := by simpa using h
    rw [List.flatMap_cons, List.getElem?_append_right (by rw [scCells_length]; omega), scCells_length, show (i + 1) * 5 + j - 5 = i * 5 + j by omega, sc_flat_at l i h' j hj]
    simp
theorem sc_flat_snoc (l : List Sc) (x : Sc) : (l ++ [x]).flatMap scCells = l.flatMap scCells ++ scCells x := by simp
theorem Row.scope {w : World} {B : Nat} {a : Option Addr} {l : List Sc} (h : Row w B a (l.flatMap scCells)) (i : Nat) (hi : i < l.length) : ∃ b o, a = some ⟨b, o, none⟩ ∧ b < B ∧ w.cell? ⟨b, o + i * 5, none⟩ = some (.pointer (some l[i].1.1)) ∧ w.cell? ⟨b, o + i * 5 + 1, none⟩ = some (.bool l[i].2.a) ∧ w.cell? ⟨b, o + i * 5 + 2, none⟩ = some (.bool l[i].2.b) ∧ w.cell? ⟨b, o + i * 5 + 3, none⟩ = some (.bool l[i].2.c) ∧ w.cell? ⟨b, o + i * 5 + 4, none⟩ = some (.bool l[i].2.d) := by
  have g := fun j (hj : j < 5) => h (i * 5 + j) _ ((sc_flat_at l i hi j hj).trans (List.getElem?_eq_getElem (by rw [scCells_length]; exact hj)))
  obtain ⟨b, o, rfl, hb, _⟩ := g 0 (by omega)
  have at_ : ∀ j (hj : j < 5), w.cell? ⟨b, o + (i * 5 + j), none⟩ = some ((scCells l[i])[j]'(by rw [scCells_length]; exact hj)) := by
    intro j hj
    obtain ⟨b', o', e, _, hc⟩ := g j hj
    injection e with e
    injection e with e1 e2 _
    subst e1 e2
    exact hc
  exact ⟨b, o, rfl, hb, by simpa [scCells] using at_ 0 (by omega), by simpa [scCells, Nat.add_assoc] using at_ 1 (by omega), by simpa [scCells, Nat.add_assoc] using at_ 2 (by omega), by simpa [scCells, Nat.add_assoc] using at_ 3 (by omega), by simpa [scCells, Nat.add_assoc] using at_ 4 (by omega)⟩

/-! ### What is free -/
/-- Variable i is one of which the node speaks, and it is not bound around it. -/
def ownS (i : Int) (x : Sc) : Bool := !x.2.get i && decide (i ∈ usedL x.1.2.kd x.1.2.u x.1.2.v)
def freeS (i : Int) (x : Sc) : Bool := x.1.2.er.freeF i (x.2.get i)
theorem inB_get (x : Sc) (i : Int) (hi : 0 ≤ i ∧ i < 4) : (inB x).get i = (x.2.get i || (isB x.1.2.kd && decide (x.1.2.u = i))) := by
  unfold inB
  cases h : isB x.1.2.kd
  · simp
  · simp [B4.get_put _ _ _ hi]
theorem freeS_iff (i : Int) (hi : 0 ≤ i ∧ i < 4) (x : Sc) : freeS i x = true ↔ ownS i x = true ∨ ∃ y ∈ stepsS x, freeS i y = true := by
  unfold freeS ownS
  rw [Ft.freeF_eq, Bool.or_eq_true]
  refine or_congr Iff.rfl ?_
  rw [List.any_eq_true, ← inB_get x i hi]
  constructor
  · rintro ⟨t, ht, hf⟩
    obtain ⟨z, hz, rfl⟩ := List.mem_map.1 ht
    obtain ⟨k, hk, rfl⟩ := List.mem_iff_getElem.1 hz
    exact ⟨((kidAt x.1.2.a k, x.1.2.args[k]), inB x), List.mem_map.2 ⟨_, List.mem_of_getElem? (kids_at x.1 k hk), rfl⟩, hf⟩
  · rintro ⟨y, hy, hf⟩
    obtain ⟨z, hz, rfl⟩ := List.mem_map.1 hy
    obtain ⟨k, hk, rfl⟩ := kids_mem hz
    exact ⟨_, List.mem_map.2 ⟨_, List.getElem_mem hk, rfl⟩, hf⟩
theorem own_of_free {i : Int} (hi : 0 ≤ i ∧ i < 4) {L : List Sc} (hc : ∀ x ∈ L, ∀ y ∈ stepsS x, y ∈ L) : ∀ (t : Ft) (p : Addr) (b : B4), ((p, t), b) ∈ L → freeS i ((p, t), b) = true → ∃ x ∈ L, ownS i x = true := by
  apply Ft.ind (P := fun t => ∀ (p : Addr) (b : B4), ((p, t), b) ∈ L → freeS i ((p, t), b) = true → ∃ x ∈ L, ownS i x = true)
  intro t ih p b h hf
  rcases (freeS_iff i hi _).1 hf with h1 | ⟨y, hy, h1⟩
  · exact ⟨_, h, h1⟩
  · have hyL := hc _ h y hy
    obtain ⟨z, hz, rfl⟩ := List.mem_map.1 hy
    obtain ⟨k, hk, rfl⟩ := kids_mem hz
    exact ih _ (List.getElem_mem hk) _ _ hyL h1

/-! ### As keys -/
def ScOk (bs : Nat → Prop) (v : Value) : Prop := ∃ (a : Addr) (p q r s : Bool), v = .agg #[.pointer (some a), .bool p, .bool q, .bool r, .bool s] ∧ bs a.block
theorem part_n (p q r s t : Value) (w : World) : (part 60 #[p, q, r, s, t] 0).run Try.prog w = .ok p w := by kernel_rfl
theorem part_l (p q r s t : Value) (w : World) : (part 70 #[p, q, r, s, t] 1).run Try.prog w = .ok (.agg #[q, r, s, t]) w := by kernel_rfl
theorem sc_stood : Try.prog.stoodInHeld 74 = false := by kernel_rfl
theorem run_equalIn_bools {P : Program} (w : World) (d : Nat) (t e : TypeId) (ht : P.underlying t = some (.array 4 e)) (he : P.underlying e = some .bool) (hsz : ∀ w, (sizeOf e).run P w = .ok 1 w) (p q r s p' q' r' s' : Bool) :
    (Op.equalIn (d + 2) t (.agg #[.bool p, .bool q, .bool r, .bool s]) (.agg #[.bool p', .bool q', .bool r', .bool s'])).run P w = .ok (p == p' && (q == q' && (r == r' && s == s'))) w := by
  rw [Op.equalIn]
  simp only [Sem.run_bind, run_underlying ht, Result.andThen_ok, hsz, Std.Legacy.Range.forIn_eq_forIn_range', Std.Legacy.Range.size, Nat.sub_zero, Nat.add_sub_cancel, Nat.div_one]
  have hr : List.range' 0 4 1 = [0, 1, 2, 3] := rfl
  have px : ∀ (p q r s : Bool) (w : World), (part e #[.bool p, .bool q, .bool r, .bool s] (0 * 1)).run P w = .ok (.bool p) w ∧ (part e #[.bool p, .bool q, .bool r, .bool s] (1 * 1)).run P w = .ok (.bool q) w ∧ (part e #[.bool p, .bool q, .bool r, .bool s] (2 * 1)).run P w = .ok (.bool r) w ∧ (part e #[.bool p, .bool q, .bool r, .bool s] (3 * 1)).run P w = .ok (.bool s) w := fun p q r s w => by
    refine ⟨?_, ?_, ?_, ?_⟩ <;> simp [part, isAgg, run_underlying he]
  have pe : ∀ (x y : Bool) (w : World), (Op.equalIn (d + 1) e (.bool x) (.bool y)).run P w = .ok (x == y) w := fun x y w => run_equalIn_bool' w d e x y he
  rw [hr]
  simp only [List.forIn_cons, List.forIn_nil, Sem.run_bind, (px p q r s w).1, (px p' q' r' s' w).1, pe, Result.andThen_ok]
  cases h1 : (p == p')
  · simp [Sem.run_pure]
  · simp only [Bool.not_true, Bool.false_eq_true, if_false, Sem.run_pure, Sem.run_bind, Result.andThen_ok, (px p q r s w).2.1, (px p' q' r' s' w).2.1, pe]
    cases h2 : (q == q')
    · simp [Sem.run_pure]
    · simp only [Bool.not_true, Bool.false_eq_true, if_false, Sem.run_pure, Sem.run_bind, Result.andThen_ok, (px p q r s w).2.2.1, (px p' q' r' s' w).2.2.1, pe]
      cases h3 : (r == r')
      · simp [Sem.run_pure]
      · simp only [Bool.not_true, Bool.false_eq_true, if_false, Sem.run_pure, Sem.run_bind, Result.andThen_ok, (px p q r s w).2.2.2, (px p' q' r' s' w).2.2.2, pe]
        cases h4 : (s == s') <;> simp [Sem.run_pure]
theorem run_check_bools {P : Program} (w : World) (em : Bool) (n : Nat) (t e : TypeId) (ht : P.underlying t = some (.array 4 e)) (he : P.underlying e = some .bool) (hsz : ∀ w, (sizeOf e).run P w = .ok 1 w) (p q r s : Bool) :
    (Instr.checkKey em (n + 2) t (.agg #[.bool p, .bool q, .bool r, .bool s])).run P w = .ok () w := by
  unfold Instr.checkKey
  simp only [Sem.run_bind, run_underlying ht, Result.andThen_ok, Std.Legacy.Range.forIn_eq_forIn_range', Std.Legacy.Range.size, Nat.sub_zero, Nat.add_sub_cancel, Nat.div_one]
  have hr : List.range' 0 4 1 = [0, 1, 2, 3] := rfl
  have hc : ∀ (x : Bool) (w : World), (Instr.checkKey em (n + 1) e (.bool x)).run P w = .ok () w := fun x w => by
    unfold Instr.checkKey
    simp only [Sem.run_bind, run_underlying he, Result.andThen_ok]
    rfl
  rw [hr]
  simp [List.forIn_cons, part, isAgg, run_underlying he, hc, hsz, Sem.run_pure, Result.andThen]
theorem run_eq_sc {P : Program} {t k e l bt : TypeId} {m : Nat} {fs : Array Field} {f0 f1 : Field} (ht : P.underlying t = some (.struct fs)) (hfs : fs.toList = [f0, f1]) (hst : P.stoodInHeld t = false) (hk : P.underlying k = some (.pointer e)) (hsz : ∀ w, (sizeOf e).run P w = .ok (m + 1) w)
    (hl : P.underlying l = some (.array 4 bt)) (hbt : P.underlying bt = some .bool) (hbs : ∀ w, (sizeOf bt).run P w = .ok 1 w)
    (n0 : f0.name ≠ "_") (n1 : f1.name ≠ "_") (t0 : f0.type = k) (t1 : f1.type = l) (o0 : f0.offset = 0) (o1 : f1.offset = 1)
    (hp0 : ∀ p q r s u w, (part k #[p, q, r, s, u] 0).run P w = .ok p w) (hp1 : ∀ p q r s u w, (part l #[p, q, r, s, u] 1).run P w = .ok (.agg #[q, r, s, u]) w) (bs : Nat → Prop) (d : Nat) (w : World) (x y : Value) (hg : AllPlain bs w) (hx : ScOk bs x) (hy : ScOk bs y) :
    ∃ r : Bool, (Op.equalIn (d + 3) t x y).run P w = .ok r w ∧ (r = true ↔ x = y) := by
  obtain ⟨a, p, q, r, s, rfl, ha⟩ := hx
  obtain ⟨c, p', q', r', s', rfl, hc⟩ := hy
  obtain ⟨r1, e1, i1⟩ := equal_ptr (P := P) hk hsz bs (d + 1) w (.pointer (some a)) (.pointer (some c)) hg ⟨_, rfl, ha⟩ ⟨_, rfl, hc⟩
  have e2 := run_equalIn_bools w d l bt hl hbt hbs p q r s p' q' r' s'
  have hF : P.fieldsOf t = fs := by
    unfold Program.fieldsOf
    rw [ht]
  have hs := run_equalIn_struct (P := P) w (d + 2) t #[.pointer (some a), .bool p, .bool q, .bool r, .bool s] #[.pointer (some c), .bool p', .bool q', .bool r', .bool s'] (by rw [hF]; exact ht) hst
  rw [hF, hfs] at hs
  rw [hs]
  simp only [Op.eqFields, t0, o0, t1, o1, if_pos n0, if_pos n1, Sem.run_bind, hp0, Result.andThen_ok, e1]
  cases r1
  · refine ⟨false, by simp [Sem.run_pure], ?_⟩
    have h1 : ¬ Value.pointer (some a) = Value.pointer (some c) := fun e => by have := i1.2 e; cases this
    constructor
    · intro h; cases h
    · intro h
      injection h with h
      injection h with h
      simp only [List.cons.injEq, and_true] at h
      exact absurd h.1 h1
  · refine ⟨p == p' && (q == q' && (r == r' && s == s')), ?_, ?_⟩
    · simp only [Bool.not_true, Bool.false_eq_true, if_false, Sem.run_bind, hp1, e2, Result.andThen_ok]
      cases (p == p' && (q == q' && (r == r' && s == s'))) <;> simp [Sem.run_pure]
    · have h1 := i1.1 rfl
      injection h1 with h1
      injection h1 with h1
      subst h1
      simp
theorem size_bool (w : World) : (sizeOf 4).run Try.prog w = .ok 1 w := by kernel_rfl
theorem run_check_sc {P : Program} {t k e l bt : TypeId} {fs : Array Field} {f0 f1 : Field} (ht : P.underlying t = some (.struct fs)) (hfs : fs.toList = [f0, f1]) (hk : P.underlying k = some (.pointer e)) (hl : P.underlying l = some (.array 4 bt)) (hbt : P.underlying bt = some .bool) (hbs : ∀ w, (sizeOf bt).run P w = .ok 1 w)
    (t0 : f0.type = k) (t1 : f1.type = l) (o0 : f0.offset = 0) (o1 : f1.offset = 1)
    (hp0 : ∀ p q r s u w, (part k #[p, q, r, s, u] 0).run P w = .ok p w) (hp1 : ∀ p q r s u w, (part l #[p, q, r, s, u] 1).run P w = .ok (.agg #[q, r, s, u]) w) (em : Bool) (n : Nat) (w : World) (a : Addr) (p q r s : Bool) :
    (Instr.checkKey em (n + 3) t (.agg #[.pointer (some a), .bool p, .bool q, .bool r, .bool s])).run P w = .ok () w := by
  unfold Instr.checkKey
  simp only [Sem.run_bind, run_underlying ht, Result.andThen_ok]
  rw [← Array.forIn_toList, hfs]
  simp only [List.forIn_cons, List.forIn_nil, t0, t1, o0, o1, Sem.run_bind, Sem.run_ite, hp0, check_ptr hk, Result.andThen_ok, Sem.run_pure]
  split <;> split <;> simp [Sem.run_pure, hp1, run_check_bools _ _ _ l bt hl hbt hbs, Result.andThen]
theorem sc_key (bs : Nat → Prop) : PKey Try.prog 74 (AllPlain bs) (ScOk bs) where
  check w em v h := by
    obtain ⟨a, p, q, r, s, rfl, _⟩ := h
    exact run_check_sc Try.underlying74 rfl Try.underlying60 Try.underlying70 Try.underlying4 size_bool rfl rfl rfl rfl part_n part_l em 9997 w a p q r s
  eq w x y hg hx hy := run_eq_sc Try.underlying74 rfl sc_stood Try.underlying60 size_fm Try.underlying70 Try.underlying4 size_bool (by decide) (by decide) rfl rfl rfl rfl part_n part_l bs 9997 w x y hg hx hy
  now d hd a b := by
    rw [Try.underlying74] at hd
    cases hd
    cases a <;> cases b <;> rfl
  row := ⟨_, Try.underlying74⟩
end Go.Proofs.Ythhhmlohfhioeaa
