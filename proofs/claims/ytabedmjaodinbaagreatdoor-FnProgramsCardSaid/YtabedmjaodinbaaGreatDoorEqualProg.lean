/-
  Two programs compared, by the program and by the model: true exactly where variables, points and edges are the same.
-/
import Derived.Test.YtabedmjaodinbaaGreatDoorEdges
import Derived.Test.YtabedmjaodinbaaGreatDoorStmt
import Derived.Test.YtabedmjaodinbaaGreatDoorApart
import Derived.Laws.StructEq
import Derived.Deep.RegionHeld3
namespace Go.Proofs.YtabedmjaodinbaaGreatDoor
open Go Go.RowKit

theorem str_same {a b : ByteArray} (h : a = b) : (a.toList == b.toList) = true := by subst h; simp
theorem str_differ {a b : ByteArray} (h : a ≠ b) : (a.toList == b.toList) = false := by
  rw [← beq_toListBytes]
  cases hh : (a == b) with
  | false => rfl
  | true => exact absurd ((MapKept.bytes_beq a b).1 hh) h
theorem ed_fields (x y : Ed) : ((x.f == y.f) && ((x.t == y.t) && ((x.k == y.k) && ((x.a.toList == y.a.toList) && (x.b.toList == y.b.toList))))) = decide (x = y) := by
  obtain ⟨f, t, k, a, b⟩ := x
  obtain ⟨f', t', k', a', b'⟩ := y
  simp only [Ed.mk.injEq]
  by_cases h1 : f = f' <;> by_cases h2 : t = t' <;> by_cases h3 : k = k' <;> by_cases h4 : a = a' <;> by_cases h5 : b = b'
  all_goals simp [h1, h2, h3, h4, h5, str_same, str_differ]

theorem fieldsEdge : Tryz.prog.underlying 44 = some (.struct (Tryz.prog.fieldsOf 44)) := by kernel_rfl
set_option maxHeartbeats 400000 in
theorem run_neq_ed (x y : Ed) (w : World) : (binOp .neq 44 (edV x.f x.t x.k x.a x.b) (edV y.f y.t y.k y.a y.b)).run Tryz.prog w = .ok (.bool (!decide (x = y))) w := by
  rw [run_neq_struct, ← ed_fields]
  go_simp
  by_cases h1 : x.f = y.f <;> by_cases h2 : x.t = y.t <;> by_cases h3 : x.k = y.k <;> by_cases h4 : x.a.toList = y.a.toList <;> by_cases h5 : x.b.toList = y.b.toList
  all_goals simp [h1, h2, h3, h4, h5]

theorem take_eq_next {α : Type} {xs ys : List α} {k : Nat} (h : xs.take k = ys.take k) (hx : k < xs.length) (hy : k < ys.length) (he : xs[k] = ys[k]) : xs.take (k + 1) = ys.take (k + 1) := by
  rw [take_next xs k hx, take_next ys k hy, h, he]
theorem take_eq_all {α : Type} {xs ys : List α} {k : Nat} (h : xs.take k = ys.take k) (hx : k = xs.length) (hy : k = ys.length) : xs = ys := by
  rw [List.take_of_length_le (by omega), List.take_of_length_le (by omega)] at h
  exact h
theorem ne_at {α : Type} {xs ys : List α} {k : Nat} (hx : k < xs.length) (hy : k < ys.length) (he : xs[k] ≠ ys[k]) : ¬ xs = ys := by
  intro h
  subst h
  exact he rfl

/-- It returned b, and the world is as it was, but for draws. -/
def Told (b : Bool) (w : World) (e : Ending) (w' : World) : Prop := ∃ n, e = .returned (.bool b) ∧ w' = w.drewN n

set_option maxHeartbeats 800000 in
theorem equalStrs (a b : Option Addr) (ca cb : Nat) (xs ys : List ByteArray) (w : World) (hx : xs.length ≤ maxLen) (hy : ys.length ≤ maxLen) (ha : Row w w.heap.size a (strVals xs)) (hb : Row w w.heap.size b (strVals ys)) :
    Calls Tryz.prog 39 #[.slice a xs.length ca, .slice b ys.length cb] w (Told (decide (xs = ys)) w) := by
  unfold maxLen at hx hy
  by_cases hl : xs.length = ys.length
  · go_enter Tryz.func39, Tryz.ntmps39
    go_wp2
    go_loopw [13] (fun i wr => ∃ (k n : Nat), k ≤ xs.length ∧ i = .int .i64 k ∧ xs.take k = ys.take k ∧ wr = w.drewN n) (fun i _ => xs.length - (intOf i).toNat)
    case atStart => exact ⟨0, 0, Nat.zero_le _, rfl, rfl, rfl⟩
    case round =>
      obtain ⟨k, n, hk, rfl, hsame, rfl⟩ := hrel
      by_cases hlt : k < xs.length
      · have hlt' : k < ys.length := by omega
        obtain ⟨ba, oa, rfl, _, hca⟩ := ha k (.string xs[k]) (by simp [strVals, hlt])
        obtain ⟨bb, ob, rfl, _, hcb⟩ := hb k (.string ys[k]) (by simp [strVals, hlt'])
        have Hs := Lib.hid hsame
        clear hsame
        by_cases he : xs[k] = ys[k]
        · have hd := str_same he
          go_wp2
          go_quiet (fail)
          go_wp2
          go_roundw
          case rel => exact ⟨k + 1, _, by omega, by go_num, take_eq_next Hs.out hlt hlt' he, rfl⟩
          case measure => simp [intOf]; omega
        · have hd := str_differ he
          have Hne := Lib.hid (ne_at hlt hlt' he)
          go_wp2
          go_quiet (fail)
          go_wp2
          go_ret
          exact ⟨_, by rw [decide_eq_false Hne.out]; rfl, World.drewN_drewN ..⟩
      · have Hs := Lib.hid (take_eq_all hsame (by omega) (by omega))
        clear hsame
        go_wp2
        go_ret
        exact ⟨_, by rw [decide_eq_true Hs.out]; rfl, rfl⟩
  · have hne : ¬ xs = ys := fun h => hl (by rw [h])
    have Hne := Lib.hid hne
    clear hne
    go_enter Tryz.func39, Tryz.ntmps39
    go_wp2
    go_ret
    exact ⟨0, by rw [decide_eq_false Hne.out]; rfl, rfl⟩

set_option maxHeartbeats 1600000 in
theorem equalEds (a b : Option Addr) (ca cb : Nat) (xs ys : List Ed) (w : World) (hx : xs.length ≤ maxLen) (hy : ys.length ≤ maxLen) (ha : Row w w.heap.size a (edVals xs)) (hb : Row w w.heap.size b (edVals ys)) :
    Calls Tryz.prog 40 #[.slice a xs.length ca, .slice b ys.length cb] w (Told (decide (xs = ys)) w) := by
  unfold maxLen at hx hy
  by_cases hl : xs.length = ys.length
  · go_enter Tryz.func40, Tryz.ntmps40
    go_wp2
    go_loopw [13] (fun i wr => ∃ (k n : Nat), k ≤ xs.length ∧ i = .int .i64 k ∧ xs.take k = ys.take k ∧ wr = w.drewN n) (fun i _ => xs.length - (intOf i).toNat)
    case atStart => exact ⟨0, 0, Nat.zero_le _, rfl, rfl, rfl⟩
    case round =>
      obtain ⟨k, n, hk, rfl, hsame, rfl⟩ := hrel
      by_cases hlt : k < xs.length
      · have hlt' : k < ys.length := by omega
        obtain ⟨ba, oa, rfl, _, ⟨c0, c1, c2, c3, c4⟩⟩ := ha.edge k hlt
        obtain ⟨bb, ob, rfl, _, ⟨d0, d1, d2, d3, d4⟩⟩ := hb.edge k hlt'
        have Hs := Lib.hid hsame
        clear hsame
        have hcmp := fun w => run_neq_ed xs[k] ys[k] w
        by_cases he : xs[k] = ys[k]
        · have Hn := Lib.hid (take_eq_next Hs.out hlt hlt' he)
          rw [decide_eq_true he] at hcmp
          clear he
          generalize xs[k] = x at *
          generalize ys[k] = y at *
          simp only [Bool.not_true, edV] at hcmp
          go_wp2
          go_quiet (fail)
          go_wp2
          go_roundw
          case rel => exact ⟨k + 1, _, by omega, by go_num, Hn.out, rfl⟩
          case measure => simp [intOf]; omega
        · have Hne := Lib.hid (ne_at hlt hlt' he)
          rw [decide_eq_false he] at hcmp
          clear he
          generalize xs[k] = x at *
          generalize ys[k] = y at *
          simp only [Bool.not_false, edV] at hcmp
          go_wp2
          go_quiet (fail)
          go_wp2
          go_ret
          exact ⟨_, by rw [decide_eq_false Hne.out]; rfl, World.drewN_drewN ..⟩
      · have Hs := Lib.hid (take_eq_all hsame (by omega) (by omega))
        clear hsame
        go_wp2
        go_ret
        exact ⟨_, by rw [decide_eq_true Hs.out]; rfl, rfl⟩
  · have hne : ¬ xs = ys := fun h => hl (by rw [h])
    have Hne := Lib.hid hne
    clear hne
    go_enter Tryz.func40, Tryz.ntmps40
    go_wp2
    go_ret
    exact ⟨0, by rw [decide_eq_false Hne.out]; rfl, rfl⟩

def sameProg (xs ys : List ByteArray) (p q : Int) (es fs : List Ed) : Bool := decide (xs = ys) && decide (p = q) && decide (es = fs)

section
variable (a b c d : Option Addr) (ca cb cc cd : Nat) (xs ys : List ByteArray) (p q : Int) (es fs : List Ed) (w : World)

set_option maxHeartbeats 1600000 in
theorem implEqual (hx : xs.length ≤ maxLen) (hy : ys.length ≤ maxLen) (he : es.length ≤ maxLen) (hf : fs.length ≤ maxLen) (ha : Row w w.heap.size a (strVals xs)) (hb : Row w w.heap.size b (edVals es)) (hc : Row w w.heap.size c (strVals ys)) (hd : Row w w.heap.size d (edVals fs)) :
    Calls Tryz.prog 12 #[.agg #[.slice a xs.length ca, .int .i64 p, .slice b es.length cb], .agg #[.slice c ys.length cc, .int .i64 q, .slice d fs.length cd]] w (GaveB (.bool (sameProg xs ys p q es fs)) w) := by
  have key : ∀ W, Below w.heap.size w W → (Row W W.heap.size a (strVals xs) ∧ Row W W.heap.size c (strVals ys)) ∧ (Row W W.heap.size b (edVals es) ∧ Row W W.heap.size d (edVals fs)) := fun W h => ⟨⟨(ha.below h).grow h.size, (hc.below h).grow h.size⟩, ⟨(hb.below h).grow h.size, (hd.below h).grow h.size⟩⟩
  have hB0 : ∀ u v t, Below w.heap.size w ((w.alloc (.cells u t)).alloc (.cells v t)) := fun u v t => ((Below.refl _ _).alloc (Nat.le_refl _) _).alloc (by simp) _
  unfold sameProg
  generalize hr1 : decide (xs = ys) = r1
  generalize hr3 : decide (es = fs) = r3
  have H1 := Lib.hid hr1
  have H3 := Lib.hid hr3
  clear hr1 hr3
  cases r1 <;> by_cases h2 : p = q <;> cases r3
  all_goals
    have H2 := Lib.hid h2
    go_enter Tryz.func12, Tryz.ntmps12
    go_wp2_with fail
    refine (equalStrs a c ca cc xs ys _ hx hy (key _ (hB0 _ _ _)).1.1 (key _ (hB0 _ _ _)).1.2).mono ?_
    rw [H1.out]
    rintro e w1 ⟨n1, rfl, rfl⟩
    go_wp2_with fail
  all_goals try (
    refine (equalEds b d cb cd es fs _ he hf (key _ (below_draws (hB0 _ _ _) _)).2.1 (key _ (below_draws (hB0 _ _ _) _)).2.2).mono ?_
    rw [H3.out]
    rintro e w1 ⟨n2, rfl, rfl⟩
    go_wp2)
  all_goals
    go_ret
    refine ⟨by simp [H2.out], ?_⟩
    first | with_reducible exact below_draws (hB0 _ _ _) _ | with_reducible exact below_draws (below_draws (hB0 _ _ _) _) _

theorem sameProg_false {xs ys : List ByteArray} {p q : Int} {es fs : List Ed} (h : ¬ (xs = ys ∧ p = q ∧ es = fs)) : sameProg xs ys p q es fs = false := by
  unfold sameProg
  by_cases h1 : xs = ys <;> by_cases h2 : p = q <;> by_cases h3 : es = fs <;> simp_all
theorem sameProg_true {xs ys : List ByteArray} {p q : Int} {es fs : List Ed} (h1 : xs = ys) (h2 : p = q) (h3 : es = fs) : sameProg xs ys p q es fs = true := by
  unfold sameProg
  simp [h1, h2, h3]

theorem two_boxes (w : World) (u0 u1 u2 v0 v1 v2 : Value) (t : TypeId) : ∃ W0, (w.alloc (.cells #[u0, u1, u2] t)).alloc (.cells #[v0, v1, v2] t) = W0 ∧ Below w.heap.size w W0 ∧
    (W0.cell? ⟨w.heap.size, 0, none⟩ = some u0 ∧ W0.cell? ⟨w.heap.size, 1, none⟩ = some u1 ∧ W0.cell? ⟨w.heap.size, 2, none⟩ = some u2) ∧ (W0.cell? ⟨w.heap.size + 1, 0, none⟩ = some v0 ∧ W0.cell? ⟨w.heap.size + 1, 1, none⟩ = some v1 ∧ W0.cell? ⟨w.heap.size + 1, 2, none⟩ = some v2) :=
  ⟨_, rfl, ((Below.refl _ _).alloc (Nat.le_refl _) _).alloc (by simp) _, by simp [go_sem], by simp [go_sem]⟩

set_option maxHeartbeats 3200000 in
theorem specEqual (hx : xs.length ≤ maxLen) (hy : ys.length ≤ maxLen) (he : es.length ≤ maxLen) (hf : fs.length ≤ maxLen) (ha : Row w w.heap.size a (strVals xs)) (hb : Row w w.heap.size b (edVals es)) (hc : Row w w.heap.size c (strVals ys)) (hd : Row w w.heap.size d (edVals fs)) :
    Calls Tryz.prog 20 #[.agg #[.slice a xs.length ca, .int .i64 p, .slice b es.length cb], .agg #[.slice c ys.length cc, .int .i64 q, .slice d fs.length cd]] w (GaveB (.bool (sameProg xs ys p q es fs)) w) := by
  unfold maxLen at hx hy he hf
  have hB0 : ∀ u v t, Below w.heap.size w ((w.alloc (.cells u t)).alloc (.cells v t)) := fun u v t => ((Below.refl _ _).alloc (Nat.le_refl _) _).alloc (by simp) _
  by_cases hdiff : p = q ∧ xs.length = ys.length ∧ es.length = fs.length
  · obtain ⟨rfl, hl1, hl2⟩ := hdiff
    go_enter Tryz.func20, Tryz.ntmps20
    go_wp2
    obtain ⟨W0, hW0, hbW, ⟨b0, b1, b2⟩, ⟨b3, b4, b5⟩⟩ := two_boxes w (.slice a ys.length ca) (.int .i64 p) (.slice b fs.length cb) (.slice c ys.length cc) (.int .i64 p) (.slice d fs.length cd) 27
    rw [hW0]
    have ha := ha.below hbW
    have hb := hb.below hbW
    have hc := hc.below hbW
    have hd := hd.below hbW
    clear hW0 hB0
    have HBW := Lib.hid hbW
    clear hbW
    go_loopw [5] (fun i wr => ∃ (k n : Nat), k ≤ xs.length ∧ i = .int .i64 k ∧ xs.take k = ys.take k ∧ wr = W0.drewN n) (fun i _ => xs.length - (intOf i).toNat)
    case atStart => exact ⟨0, 0, Nat.zero_le _, rfl, rfl, rfl⟩
    case round =>
      obtain ⟨k, n, hk, rfl, hsame, rfl⟩ := hrel
      by_cases hlt : k < xs.length
      · have hlt' : k < ys.length := by omega
        obtain ⟨ba, oa, rfl, _, hca⟩ := ha k (.string xs[k]) (by simp [strVals, hlt])
        obtain ⟨bb, ob, rfl, _, hcb⟩ := hc k (.string ys[k]) (by simp [strVals, hlt'])
        have Hs := Lib.hid hsame
        clear hsame
        by_cases he : xs[k] = ys[k]
        · have hd' := str_same he
          go_wp2
          go_quiet (fail)
          go_wp2
          go_roundw
          case rel => exact ⟨k + 1, _, by omega, by go_num, take_eq_next Hs.out hlt hlt' he, rfl⟩
          case measure => simp [intOf]; omega
        · have hd' := str_differ he
          have Hne := Lib.hid (ne_at hlt hlt' he)
          go_wp2
          go_quiet (fail)
          go_wp2
          go_ret
          exact ⟨by rw [sameProg_false fun h => Hne.out h.1]; rfl, below_draws (below_draws HBW.out _) _⟩
      · have Hs := Lib.hid (take_eq_all hsame (by omega) (by omega))
        clear hsame
        go_wp2
        go_loopw [6] (fun i wr => ∃ (k n : Nat), k ≤ es.length ∧ i = .int .i64 k ∧ es.take k = fs.take k ∧ wr = W0.drewN n) (fun i _ => es.length - (intOf i).toNat)
        case atStart => exact ⟨0, _, Nat.zero_le _, rfl, rfl, rfl⟩
        case round =>
          obtain ⟨k, n, hk, rfl, hsame, rfl⟩ := hrel
          by_cases hlt : k < es.length
          · have hlt' : k < fs.length := by omega
            obtain ⟨ba, oa, rfl, _, ⟨c0, c1, c2, c3, c4⟩⟩ := hb.edge k hlt
            obtain ⟨bb, ob, rfl, _, ⟨d0, d1, d2, d3, d4⟩⟩ := hd.edge k hlt'
            have Hq := Lib.hid hsame
            clear hsame
            have hcmp := fun w => run_neq_ed es[k] fs[k] w
            by_cases he : es[k] = fs[k]
            · have Hn := Lib.hid (take_eq_next Hq.out hlt hlt' he)
              rw [decide_eq_true he] at hcmp
              clear he
              generalize es[k] = x at *
              generalize fs[k] = y at *
              simp only [Bool.not_true, edV] at hcmp
              go_wp2
              go_quiet (fail)
              go_wp2
              go_roundw
              case rel => exact ⟨k + 1, _, by omega, by go_num, Hn.out, rfl⟩
              case measure => simp [intOf]; omega
            · have Hne := Lib.hid (ne_at hlt hlt' he)
              rw [decide_eq_false he] at hcmp
              clear he
              generalize es[k] = x at *
              generalize fs[k] = y at *
              simp only [Bool.not_false, edV] at hcmp
              go_wp2
              go_quiet (fail)
              go_wp2
              go_ret
              exact ⟨by rw [sameProg_false fun h => Hne.out h.2.2]; rfl, below_draws (below_draws HBW.out _) _⟩
          · have Hq := Lib.hid (take_eq_all hsame (by omega) (by omega))
            clear hsame
            go_wp2
            go_ret
            exact ⟨by rw [sameProg_true Hs.out rfl Hq.out]; rfl, below_draws HBW.out _⟩
  · have hr : sameProg xs ys p q es fs = false := sameProg_false fun ⟨h1, h2, h3⟩ => hdiff ⟨h2, by rw [h1], by rw [h3]⟩
    rw [hr]
    clear hr
    by_cases h1 : p = q
    · by_cases h2 : xs.length = ys.length
      · have h3 : ¬ es.length = fs.length := fun h => hdiff ⟨h1, h2, h⟩
        clear hdiff
        go_enter Tryz.func20, Tryz.ntmps20
        go_wp2
        go_ret
        exact ⟨rfl, hB0 _ _ _⟩
      · clear hdiff
        go_enter Tryz.func20, Tryz.ntmps20
        go_wp2
        go_ret
        exact ⟨rfl, hB0 _ _ _⟩
    · clear hdiff
      go_enter Tryz.func20, Tryz.ntmps20
      go_wp2
      go_ret
      exact ⟨rfl, hB0 _ _ _⟩
end
end Go.Proofs.YtabedmjaodinbaaGreatDoor
