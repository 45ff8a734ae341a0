/-
  Several texts of one proof in one file, in the order in which they build.
-/
import Derived.Shelf.Slices.Turned
import Derived.Shelf.Slices.Equal
import Derived.Ground.Names2Prog
import Derived.Shelf.Slices.Clone
import Derived.Shelf.Slices.Delete
import Derived.Shelf.Slices.Cells
import Derived.Shelf.Slices.Empties2
import Derived.Test.YtpmmjaceehlpiaaGreatDoorProg
import Derived.LaidLaws
import Derived.OpenVars
import Derived.OpenShut
import Derived.ChangeArms
import Derived.Stop.LaidErr
import Derived.Lib.LaidTab
import Derived.Test.YtpmmjaceehlpiaaGreatDoorChecked
import Derived.Laws.ResultCell
import Derived.Test.YtpmmjaceehlpiaaGreatDoorRows
import Derived.Laws.RangeAny
import Derived.Test.YtpmmjaceehlpiaaGreatDoorR01
/-
  Contracts of Go's library, taken from the kit's shelf at this seat's numbers: nothing is walked here, each is one application.
-/
namespace Go.Proofs
open Go.Shelf
def Tryz.lays107_ren : Go.Shelf.Ren := ⟨fun | 107 => 53 | 108 => 98 | n => n, fun | 28 => 28 | 3 => 3 | 4 => 4 | 0 => 0 | n => n, fun | n => n⟩
theorem Tryz.lays107 : Go.Proofs.Lays.n107 Tryz.prog Tryz.lays107_ren := {
  mixed := by kernel_rfl
  f107 := Tryz.func53.trans (congrArg some (by kernel_rfl))
  f108 := Tryz.func98.trans (congrArg some (by kernel_rfl))
  t0 := Tryz.underlying0
  a0 := Tryz.isAgg0
  z0 := Tryz.sizeOf0
  v0 := Tryz.zeroValue0
  t3 := Tryz.underlying3
  a3 := Tryz.isAgg3
  z3 := Tryz.sizeOf3
  v3 := Tryz.zeroValue3
  t4 := Tryz.underlying4
  a4 := Tryz.isAgg4
  z4 := Tryz.sizeOf4
  v4 := Tryz.zeroValue4
  t28 := Tryz.underlying28
  a28 := Tryz.isAgg28
  z28 := Tryz.sizeOf28
  v28 := Tryz.zeroValue28 }
open Go.Lib in
theorem Tryz.slices_Contains_int (b off n c : Nat) (zs : List Int) (x : Int) (w : World) (hz : n ≤ zs.length) (hbig : n ≤ 9223372036854775807) (hc : ∀ j, j < zs.length → w.cell? ⟨b, off + j, none⟩ = some (.int .i64 (zs.getD j 0))) :
    Calls Tryz.prog 53 #[.slice (some ⟨b, off, none⟩) n c, .int .i64 x] w fun e w' => e = .returned (.bool ((zs.take n).contains x)) ∧ w' = w := Any.slices_Contains_int Tryz.lays107 b off n c zs x w hz hbig hc
open Go.Lib in
theorem Tryz.slices_Contains_int_empty (a : Option Addr) (c : Nat) (x : Int) (w : World) :
    Calls Tryz.prog 53 #[.slice a 0 c, .int .i64 x] w fun e w' => e = .returned (.bool false) ∧ w' = w := Any.slices_Contains_int_empty Tryz.lays107 a c x w
def Tryz.laysNm215_ren : Go.Shelf.Ren := ⟨fun | 15 => 97 | n => n, fun | 22 => 28 | 3 => 3 | 4 => 4 | n => n, fun | n => n⟩
theorem Tryz.laysNm215 : Go.Proofs.Lays2.n15 Tryz.prog Tryz.laysNm215_ren := {
  mixed := by kernel_rfl
  f15 := Tryz.func97.trans (congrArg some (by kernel_rfl))
  t3 := Tryz.underlying3
  a3 := Tryz.isAgg3
  z3 := Tryz.sizeOf3
  v3 := Tryz.zeroValue3
  t4 := Tryz.underlying4
  a4 := Tryz.isAgg4
  z4 := Tryz.sizeOf4
  v4 := Tryz.zeroValue4
  t22 := Tryz.underlying28
  a22 := Tryz.isAgg28
  z22 := Tryz.sizeOf28
  v22 := Tryz.zeroValue28
  i3 := by kernel_rfl }
open Go.RowKit Go.Lib in
theorem Tryz.slices_Clone_int (b off n c : Nat) (zs : List Int) (w : World) (hz : n ≤ zs.length) (hbig : n * 8 ≤ 140737488355328) (hc : ∀ j, j < zs.length → w.cell? ⟨b, off + j, none⟩ = some (.int .i64 (zs.getD j 0))) :
    Calls Tryz.prog 97 #[.slice (some ⟨b, off, none⟩) n c] w fun e w' => ∃ v', e = .returned v' ∧ w'.ownsRow w.heap.size 3 1 v' n ((zs.take n).map (Value.int .i64)) ∧ v' ≠ .slice none 0 0 ∧ Below w.heap.size w w' := Any.slices_Clone_int Tryz.laysNm215 b off n c zs w hz hbig hc
open Go.RowKit Go.Lib in
theorem Tryz.slices_Clone_int_nil (n c : Nat) (w : World) :
    Calls Tryz.prog 97 #[.slice none n c] w fun e w' => e = .returned (.slice none 0 0) ∧ w' = w := Any.slices_Clone_int_nil Tryz.laysNm215 n c w
open Go.RowKit Go.Lib in
theorem Tryz.slices_Clone_int_zero (a : Addr) (c : Nat) (w : World) :
    Calls Tryz.prog 97 #[.slice (some a) 0 c] w fun e w' => ∃ v', e = .returned v' ∧ w'.ownsRow w.heap.size 3 1 v' 0 [] ∧ v' ≠ .slice none 0 0 ∧ Below w.heap.size w w' := Any.slices_Clone_int_zero Tryz.laysNm215 a c w
def Tryz.laysNm223_ren : Go.Shelf.Ren := ⟨fun | 23 => 168 | n => n, fun | 22 => 28 | 3 => 3 | 4 => 4 | 0 => 0 | n => n, fun | n => n⟩
theorem Tryz.laysNm223 : Go.Proofs.Lays2.n23 Tryz.prog Tryz.laysNm223_ren := {
  mixed := by kernel_rfl
  f23 := Tryz.func168.trans (congrArg some (by kernel_rfl))
  t0 := Tryz.underlying0
  a0 := Tryz.isAgg0
  z0 := Tryz.sizeOf0
  v0 := Tryz.zeroValue0
  t3 := Tryz.underlying3
  a3 := Tryz.isAgg3
  z3 := Tryz.sizeOf3
  v3 := Tryz.zeroValue3
  t4 := Tryz.underlying4
  a4 := Tryz.isAgg4
  z4 := Tryz.sizeOf4
  v4 := Tryz.zeroValue4
  t22 := Tryz.underlying28
  a22 := Tryz.isAgg28
  z22 := Tryz.sizeOf28
  v22 := Tryz.zeroValue28
  i3 := by kernel_rfl }
open Go.RowKit Go.Lib Go.Sort in
theorem Tryz.slices_Delete_int_cells (b off n c i j : Nat) (zs : List Int) (w : World) (hz : n ≤ zs.length) (hcap : n ≤ c) (hm : c ≤ 9223372036854775807) (hij : i ≤ j) (hj : j ≤ n) (hc : ∀ j, j < zs.length → w.cell? ⟨b, off + j, none⟩ = some (.int .i64 (zs.getD j 0))) (hf : ∀ j, j < n → w.frozen? ⟨b, off + j, none⟩ = false) :
    Calls Tryz.prog 168 #[.slice (some ⟨b, off, none⟩) n c, .int .i64 i, .int .i64 j] w fun e w' => e = .returned (.slice (some ⟨b, off, none⟩) (n - (j - i)) c) ∧ ∃ q, w' = (w.drewN q).setCells b off (((zs.take n).take i ++ (zs.take n).drop j ++ List.replicate (j - i) 0).map (Value.int .i64)) := Any.slices_Delete_int_cells Tryz.laysNm223 b off n c i j zs w hz hcap hm hij hj hc hf
end Go.Proofs
/-
  What a listed table gives the walks: a package-level variable of arrays, structs, numbers, bools and strings that reads as0 a known datum holds just the cells of that datum. Nothing here knows of the program.
-/
namespace Go.Proofs.YtpmmjaceehlpiaaGreatDoor
open Go Go.RowKit Go.ChangeShapes Go.WideShapes Go.ChangeAt

mutual
/-- The cells of a plain datum. -/
def flat : DataW Unit → List Value
  | .lit (.int k n) => [.int k n]
  | .lit (.bool b) => [.bool b]
  | .lit (.string l) => [.string ⟨l.toArray⟩]
  | .agg parts => flatAll parts
  | _ => []
def flatAll : List (DataW Unit) → List Value
  | [] => []
  | d :: r => flat d ++ flatAll r
end
theorem flatAll_eq (ds : List (DataW Unit)) : flatAll ds = ds.flatMap flat := by
  induction ds with
  | nil => rfl
  | cons d r ih => simp [flatAll, ih]

/-- Fields that lie one behind the other. -/
def closeB (P : Program) : Nat → List Field → Nat → Bool
  | o, [], n => o == n
  | o, f :: r, n => f.offset == o && closeB P (o + P.cellsOf f.type) r n
/-- A type of arrays, structs, numbers, bools and strings, its parts one behind the other. -/
def flatB (P : Program) : Nat → TypeId → Bool
  | 0, _ => false
  | m + 1, t => match P.underlying t with
    | some (.int _) | some .bool | some .string => true
    | some (.array n e) => P.cellsOf t == n * P.cellsOf e && flatB P m e
    | some (.struct fs) => closeB P 0 fs.toList (P.cellsOf t) && fs.toList.all fun f => flatB P m f.type
    | _ => false

theorem split_even {α : Type} (c : Nat) : ∀ (n : Nat) (l : List α), l.length = n * c → l = (List.range n).flatMap fun i => (l.drop (i * c)).take c
  | 0, l, h => by simp at h; simp [h]
  | n + 1, l, h => by
    have h1 := split_even c n (l.drop c) (by simp [h]; rw [Nat.add_mul]; omega)
    have h2 : ((List.range n).flatMap fun i => ((l.drop c).drop (i * c)).take c) = (List.range n).flatMap fun i => (l.drop ((i + 1) * c)).take c := by
      congr 1
      funext i
      rw [List.drop_drop, Nat.add_mul, Nat.one_mul, Nat.add_comm]
    rw [List.range_succ_eq_map, List.flatMap_cons, List.flatMap_map, Nat.zero_mul, List.drop_zero]
    exact ((List.take_append_drop c l).symm).trans (congrArg (l.take c ++ ·) (h1.trans h2))

theorem split_close {P : Program} {α : Type} : ∀ (fs : List Field) (o n : Nat) (l : List α), closeB P o fs n = true → l.length = n → l.drop o = fs.flatMap fun f => (l.drop f.offset).take (P.cellsOf f.type)
  | [], o, n, l, h, hl => by
    simp [closeB] at h
    simp [List.drop_eq_nil_iff]
    omega
  | f :: r, o, n, l, h, hl => by
    simp only [closeB, Bool.and_eq_true, beq_iff_eq] at h
    rw [List.flatMap_cons, ← split_close r _ n l h.2 hl, h.1, ← List.drop_drop, List.take_append_drop]

theorem zip_flat {α β γ : Type} {f : α → List γ} {g : β → List γ} : ∀ (as0 : List α) (xs : List β), as0.length = xs.length → (∀ (i : Nat) a x, as0[i]? = some a → xs[i]? = some x → f a = g x) → as0.flatMap f = xs.flatMap g
  | [], [], _, _ => rfl
  | [], _ :: _, h, _ => by simp at h
  | _ :: _, [], h, _ => by simp at h
  | a :: as0, x :: xs, h, hf => by
    rw [List.flatMap_cons, List.flatMap_cons, hf 0 a x rfl rfl, zip_flat as0 xs (by simpa using h) fun i b y hb hy => hf (i + 1) b y (by simpa using hb) (by simpa using hy)]

theorem flat_agg (xs : List (DataW Unit × List MemPlace)) : flat (.agg (xs.map (·.1))) = xs.flatMap fun x => flat x.1 := by
  rw [flat, flatAll_eq, List.flatMap_map]

theorem flat_of_trod {P : Program} {w : World} {base : Nat} {sp : Nat → Bool} {held : Bool} {enc : TypeId × Value → Unit} : ∀ (m : Nat) {fuel : Nat} {t : TypeId} {cs : List Value} {d : DataW Unit} {p : List MemPlace},
    flatB P m t = true → DataW.trod enc P w base sp held fuel t cs = some (d, p) → cs = flat d
  | 0, _, _, _, _, _, hf, _ => by simp [flatB] at hf
  | m + 1, fuel, t, cs, d, p, hf, h => by
    unfold flatB at hf
    split at hf
    · rename_i k hk
      obtain ⟨n, rfl, hx, _⟩ := DataW.trod_int hk h
      simp only [Prod.mk.injEq] at hx
      rw [hx.1]; rfl
    · rename_i hk
      obtain ⟨b, rfl, hx⟩ := DataW.trod_bool hk h
      simp only [Prod.mk.injEq] at hx
      rw [hx.1]; rfl
    · rename_i hk
      obtain ⟨s, rfl, hx, _⟩ := DataW.trod_string hk h
      simp only [Prod.mk.injEq] at hx
      rw [hx.1]
      simp [flat]
    · rename_i n e hk
      simp only [Bool.and_eq_true, beq_iff_eq] at hf
      obtain ⟨xs, m', rfl, hx, hlen, hn, hel⟩ := DataW.trod_array hk h
      simp only [Prod.mk.injEq] at hx
      rw [hx.1, flat_agg, split_even (P.cellsOf e) n cs (by rw [hlen, hf.1])]
      refine zip_flat _ _ (by simp [hn]) fun i a x ha hxi => ?_
      obtain ⟨hi, rfl⟩ : i < n ∧ a = i := by
        rw [List.getElem?_eq_some_iff] at ha
        obtain ⟨h1, h2⟩ := ha
        simp at h1 h2
        exact ⟨h1, h2.symm⟩
      exact flat_of_trod m hf.2 ((hel a hi).trans hxi)
    · rename_i fs hk
      simp only [Bool.and_eq_true, List.all_eq_true] at hf
      obtain ⟨xs, m', rfl, hx, hlen, hn, hel⟩ := DataW.trod_struct hk h
      simp only [Prod.mk.injEq] at hx
      have hs := split_close fs.toList 0 _ cs hf.1 hlen
      rw [List.drop_zero] at hs
      rw [hx.1, flat_agg, hs]
      refine zip_flat _ _ (by simp [hn]) fun i a x ha hxi => ?_
      exact flat_of_trod m (hf.2 a (List.mem_of_getElem? ha)) ((hel i a (by simpa using ha)).trans hxi)
    · cases hf

/-- A listed variable of a flat type holds the cells of its datum. -/
theorem laid_at {P : Program} {W : World} : ∀ {l : List (String × DataW Unit)} (i : Nat) {name : String} {d : DataW Unit} {g : Nat} {t : TypeId}, laidMet P l W → l[i]? = some (name, d) → P.globalNamed name = some g → (P.globals[g]?).map (·.type) = some t → flatB P 8 t = true →
    W.var? P name = some (flat d).toArray
  | [], i, _, _, _, _, _, hi, _, _, _ => by simp at hi
  | x :: l, i + 1, _, _, _, _, h, hi, hg, ht, hf => laid_at i h.tail (by simpa using hi) hg ht hf
  | (n, e) :: l, 0, name, d, g, t, h, hi, hg, ht, hf => by
    obtain ⟨rfl, rfl⟩ : n = name ∧ e = d := by simpa using hi
    obtain ⟨ps, ⟨g', t', cs, fuel, p, q, hg', ht', hvar, hd, _, _⟩, _⟩ := h
    obtain rfl := Option.some.inj (hg.symm.trans hg')
    obtain rfl := Option.some.inj (ht.symm.trans ht')
    rw [hvar, ← flat_of_trod 8 hf hd]

/-- The first of the named variables' data. -/
theorem gs_cons {H : Type} {enc : TypeId × Value → H} {P : Program} {w : World} {sp : Nat → Bool} {n : String} {ns : List String} {gs : List (DataW H)} {ps : List MemPlace} (h : DataW.TrodVars enc P w sp (n :: ns) gs ps) :
    ∃ d ds q, gs = d :: ds ∧ DataW.TrodVars enc P w sp ns ds q := by
  cases gs with
  | nil => exact h.elim
  | cons d ds =>
    obtain ⟨g, t, cs, fuel, p, q, _, _, _, _, hs, _⟩ := h
    exact ⟨d, ds, q, rfl, hs⟩

theorem var_stays {P : Program} {w w' : World} {n : String} {cs : Array Value} (h : w.var? P n = some cs) (hb : Below w.heap.size w w') : w'.var? P n = some cs := by
  unfold World.var? at h ⊢
  cases hg : P.globalNamed n with
  | none => simp [hg] at h
  | some g =>
    simp only [hg, Option.bind_some] at h ⊢
    have hlt : g < w.heap.size := by
      rcases Nat.lt_or_ge g w.heap.size with h' | h'
      · exact h'
      · simp [Array.getElem?_eq_none h'] at h
    rw [hb.block g hlt]
    exact h

/-- A law's last step where its row names variables of the program's own: it returned true, and nothing that was there has turned. -/
theorem law_post_vars {H : Type} {enc : TypeId × Value → H} {P : Program} (hl : laidOutB P = true) {f : Func} {s : ChangeSpec} {W W' : World} {args : Array Value} {ds gs : List (DataW H)} {before : List MemPlace} {bt : TypeId}
    (hvars : varsRowed P s.vars = true) (hp : (f.params.toList.all fun t => P.readableRec t && decide (t < P.types.size)) = true) (hres : f.resultTypes = #[bt]) (hbt : P.underlying bt = some .bool)
    (hW : DataW.Whole enc P f.params.toList s.vars false W args.toList ds gs before) (hfn : s.fn H (ds ++ gs) = { results := [.lit (.bool true)], args := ds, vars := gs }) (hb : Below W.heap.size W W') :
    s.post enc P f false true false false W args (.bool true) W' := by
  have hW' := hW
  obtain ⟨p, q, hA, hV, rfl, _, _⟩ := hW
  have hlt : ∀ x ∈ p, x.block < W.heap.size := fun x hx => hW'.lt x (by simp [hx])
  refine ⟨ds, gs, p ++ q, [], p, q, hW', ?_, ?_, ?_, hb.frame _, fun h => by cases h⟩
  · rw [hfn, hres]
    exact trodAll_mk1 (shut_bool hbt true)
  · rw [hfn]
    exact trodAll_stay hl hb hp hlt hA
  · rw [hfn]
    exact Below.trodVars hl hb hvars hV
end Go.Proofs.YtpmmjaceehlpiaaGreatDoor
/-
  Statements: what chapter 4's functions come to; the law's own helpers over a statement. A statement is a struct of a kind and two names.
-/
namespace Go.Proofs.YtpmmjaceehlpiaaGreatDoor
open Go Go.RowKit

abbrev stV (k : Int) (a b : ByteArray) : Value := .agg #[.int .i64 k, .string a, .string b]
def isTestS (k : Int) : Bool := decide (9 ≤ k) && decide (k ≤ 12)
def oppS (k : Int) : Int := if k = 9 then 10 else if k = 10 then 9 else if k = 11 then 12 else 11
theorem isTestS_true {k : Int} : isTestS k = true ↔ 9 ≤ k ∧ k ≤ 12 := by simp [isTestS]
theorem isTestS_four {k : Int} (h : isTestS k = true) : k = 9 ∨ k = 10 ∨ k = 11 ∨ k = 12 := by rw [isTestS_true] at h; omega

/-- It returned x; what was there is as it was. -/
def GaveB (x : Value) (w : World) (e : Ending) (w' : World) : Prop := e = .returned x ∧ Below w.heap.size w w'

set_option maxHeartbeats 400000 in
theorem lawToStmt (k : Int) (a b : ByteArray) (w : World) : Calls Tryz.prog 140 #[stV k a b] w (GaveB (stV k a b) w) := by
  go_enter Tryz.func140, Tryz.ntmps140
  go_wp2
  refine bodyPost_ret (v := stV k a b) (by simp [results, Tryz.results140, go_sem]) rfl ⟨rfl, ?_⟩
  repeat (first | exact Below.refl _ _ | refine Below.alloc ?_ (by simp <;> omega) _ | refine Below.setCell ?_ (by simp <;> omega) _)

/-- The size guard: an int; where it is not negative, the names fit into the allowance. -/
def SzStmtEnd (a b : ByteArray) (left : Nat) (w : World) (e : Ending) (w' : World) : Prop :=
  ∃ r : Int, e = .returned (.int .i64 r) ∧ Below w.heap.size w w' ∧ r ≤ left ∧ (0 ≤ r → (a.size : Int) + b.size + r = left)
set_option maxHeartbeats 400000 in
theorem szStmt (k : Int) (a b : ByteArray) (left : Nat) (w : World) (hl : left ≤ 1099511627776) (ha : a.size ≤ maxLen) (hb : b.size ≤ maxLen) : Calls Tryz.prog 139 #[stV k a b, .int .i64 left] w (SzStmtEnd a b left w) := by
  unfold maxLen at ha hb
  by_cases h0 : (left : Int) - a.size < 0
  · go_enter Tryz.func139, Tryz.ntmps139
    go_wp2
    go_ret
    exact ⟨-1, rfl, (Below.refl _ _).alloc (Nat.le_refl _) _, by omega, fun h => by omega⟩
  · by_cases h1 : (left : Int) - a.size - b.size < 0
    · go_enter Tryz.func139, Tryz.ntmps139
      go_wp2
      go_ret
      exact ⟨-1, rfl, (Below.refl _ _).alloc (Nat.le_refl _) _, by omega, fun h => by omega⟩
    · go_enter Tryz.func139, Tryz.ntmps139
      go_wp2
      go_ret
      exact ⟨(left : Int) - a.size - b.size, rfl, (Below.refl _ _).alloc (Nat.le_refl _) _, by omega, fun h => by omega⟩

theorem str_eq_self (s : ByteArray) : (s.toList == s.toList) = true := by simp
set_option maxHeartbeats 400000 in
theorem eqStmtSame (k : Int) (a b : ByteArray) (w : World) : Calls Tryz.prog 141 #[stV k a b, stV k a b] w (GaveB (.bool true) w) := by
  go_enter Tryz.func141, Tryz.ntmps141
  go_wp2
  go_ret
  refine ⟨rfl, ?_⟩
  repeat (first | exact Below.refl _ _ | refine Below.alloc ?_ (by simp <;> omega) _ | refine Below.setCell ?_ (by simp <;> omega) _)

theorem specIn3 (a x y : Int) (w : World) : Calls Tryz.prog 58 #[.int .i64 a, .int .i64 x, .int .i64 y] w fun e w' => e = .returned (.bool (decide (x ≤ a) && decide (a ≤ y))) ∧ w = w' := by
  by_cases h0 : x ≤ a <;> by_cases h1 : a ≤ y
  all_goals
    go_enter Tryz.func58, Tryz.ntmps58
    go_wp2
    go_ret
    exact ⟨by simp [h0, h1], rfl⟩

theorem specIsTest (k : Int) (a b : ByteArray) (w : World) : Calls Tryz.prog 105 #[stV k a b] w (GaveB (.bool (isTestS k)) w) := by
  go_enter Tryz.func105, Tryz.ntmps105
  go_wp2_with fail
  refine (specIn3 k 9 12 _).mono ?_
  rintro e w1 ⟨rfl, rfl⟩
  go_wp2
  go_ret
  exact ⟨rfl, (Below.refl _ _).alloc (Nat.le_refl _) _⟩

def noneS : Value := .tuple #[stV 0 ⟨#[]⟩ ⟨#[]⟩, .bool false]
theorem bcell {W w1 : World} (hb : Below W.heap.size W w1) : (∀ b o, b < W.heap.size → w1.cell? ⟨b, o, none⟩ = W.cell? ⟨b, o, none⟩) ∧ (∀ b o, b < W.heap.size → w1.frozen? ⟨b, o, none⟩ = W.frozen? ⟨b, o, none⟩) :=
  ⟨fun b o h => hb.cell (p := ⟨b, o, none⟩) h, fun b o h => hb.frozen (p := ⟨b, o, none⟩) h⟩

end Go.Proofs.YtpmmjaceehlpiaaGreatDoor
/-
  How many names a kind of statement uses: the table of the program, the walks of the program's function and of the model's.
-/
namespace Go.Proofs.YtpmmjaceehlpiaaGreatDoor
open Go Go.RowKit

def namesN (k : Int) : Int := if k = 1 then 0 else if k = 2 ∨ k = 3 ∨ k = 6 ∨ k = 8 ∨ k = 9 ∨ k = 10 then 1 else if k = 4 ∨ k = 5 ∨ k = 7 ∨ k = 11 ∨ k = 12 then 2 else -1
theorem kinds {k : Int} (h : 1 ≤ k ∧ k ≤ 12) : k = 1 ∨ k = 2 ∨ k = 3 ∨ k = 4 ∨ k = 5 ∨ k = 6 ∨ k = 7 ∨ k = 8 ∨ k = 9 ∨ k = 10 ∨ k = 11 ∨ k = 12 := by omega
theorem namesN_none {k : Int} (h : ¬ (1 ≤ k ∧ k ≤ 12)) : namesN k = -1 := by
  unfold namesN
  rw [if_neg (by omega), if_neg (by omega), if_neg (by omega)]
theorem namesN_four (k : Int) : namesN k = -1 ∨ namesN k = 0 ∨ namesN k = 1 ∨ namesN k = 2 := by
  unfold namesN
  split
  · exact .inr (.inl rfl)
  · split
    · exact .inr (.inr (.inl rfl))
    · split
      · exact .inr (.inr (.inr rfl))
      · exact .inl rfl

def HasNamesTable (w : World) : Prop := w.var? Tryz.prog "loop.example/g00590/impl.namesTable" = some #[Value.int .i64 0, .int .i64 0, .int .i64 1, .int .i64 1, .int .i64 2, .int .i64 2, .int .i64 1, .int .i64 2, .int .i64 1, .int .i64 1, .int .i64 1, .int .i64 2, .int .i64 2]
theorem HasNamesTable.keeps {w w' : World} (h : HasNamesTable w) (hb : Below w.heap.size w w') : HasNamesTable w' := var_stays h hb
theorem gNamesTable : Tryz.prog.globalNamed "loop.example/g00590/impl.namesTable" = some 0 := by kernel_rfl
theorem namesTable_of {W : World} (i : Nat) {l : List (String × DataW Unit)} (h : laidMet Tryz.prog l W) (hi : l[i]? = some ("loop.example/g00590/impl.namesTable", Rows.laid_loop_example_g00590_impl_namesTable)) : HasNamesTable W :=
  (laid_at (t := 169) i h hi gNamesTable (by kernel_rfl) (by kernel_rfl)).trans (congrArg some (show (flat Rows.laid_loop_example_g00590_impl_namesTable).toArray = _ by kernel_rfl))
theorem HasNamesTable.cell {w : World} (h : HasNamesTable w) (i : Nat) : w.cell? ⟨0, i, none⟩ = (#[Value.int .i64 0, .int .i64 0, .int .i64 1, .int .i64 1, .int .i64 2, .int .i64 2, .int .i64 1, .int .i64 2, .int .i64 1, .int .i64 1, .int .i64 1, .int .i64 2, .int .i64 2])[i]? := World.var?_cell gNamesTable h i

/-- It returned x, and nothing has turned. -/
def GaveW (x : Value) (w : World) (e : Ending) (w' : World) : Prop := e = .returned x ∧ w = w'

set_option maxHeartbeats 800000 in
theorem implNamesOf (k : Int) (w : World) (hT : HasNamesTable w) : Calls Tryz.prog 127 #[.int .i64 k] w (GaveW (.int .i64 (namesN k)) w) := by
  by_cases h : 1 ≤ k ∧ k ≤ 12
  · have c1 : w.cell? ⟨0, 1, none⟩ = some (.int .i64 0) := hT.cell 1
    have c2 : w.cell? ⟨0, 2, none⟩ = some (.int .i64 1) := hT.cell 2
    have c3 : w.cell? ⟨0, 3, none⟩ = some (.int .i64 1) := hT.cell 3
    have c4 : w.cell? ⟨0, 4, none⟩ = some (.int .i64 2) := hT.cell 4
    have c5 : w.cell? ⟨0, 5, none⟩ = some (.int .i64 2) := hT.cell 5
    have c6 : w.cell? ⟨0, 6, none⟩ = some (.int .i64 1) := hT.cell 6
    have c7 : w.cell? ⟨0, 7, none⟩ = some (.int .i64 2) := hT.cell 7
    have c8 : w.cell? ⟨0, 8, none⟩ = some (.int .i64 1) := hT.cell 8
    have c9 : w.cell? ⟨0, 9, none⟩ = some (.int .i64 1) := hT.cell 9
    have c10 : w.cell? ⟨0, 10, none⟩ = some (.int .i64 1) := hT.cell 10
    have c11 : w.cell? ⟨0, 11, none⟩ = some (.int .i64 2) := hT.cell 11
    have c12 : w.cell? ⟨0, 12, none⟩ = some (.int .i64 2) := hT.cell 12
    rcases kinds h with rfl | rfl | rfl | rfl | rfl | rfl | rfl | rfl | rfl | rfl | rfl | rfl
    all_goals
      clear h hT
      go_enter Tryz.func127, Tryz.ntmps127
      go_wp2
      go_ret
      exact ⟨rfl, rfl⟩
  · rw [namesN_none h]
    by_cases h1 : k < 1
    · go_enter Tryz.func127, Tryz.ntmps127
      go_wp2
      go_ret
      exact ⟨rfl, rfl⟩
    · have h2 : 12 < k := by omega
      go_enter Tryz.func127, Tryz.ntmps127
      go_wp2
      go_ret
      exact ⟨rfl, rfl⟩

set_option maxHeartbeats 800000 in
theorem specNamesOf (k : Int) (w : World) : Calls Tryz.prog 122 #[.int .i64 k] w (GaveW (.int .i64 (namesN k)) w) := by
  by_cases h : 1 ≤ k ∧ k ≤ 12
  · rcases kinds h with rfl | rfl | rfl | rfl | rfl | rfl | rfl | rfl | rfl | rfl | rfl | rfl
    all_goals
      clear h
      go_enter Tryz.func122, Tryz.ntmps122
      go_wp2
      go_ret
      exact ⟨rfl, rfl⟩
  · rw [namesN_none h]
    have h1 : (k == 1) = false := by simp only [beq_eq_false_iff_ne, ne_eq]; omega
    have h2 : (k == 2) = false := by simp only [beq_eq_false_iff_ne, ne_eq]; omega
    have h3 : (k == 3) = false := by simp only [beq_eq_false_iff_ne, ne_eq]; omega
    have h4 : (k == 4) = false := by simp only [beq_eq_false_iff_ne, ne_eq]; omega
    have h5 : (k == 5) = false := by simp only [beq_eq_false_iff_ne, ne_eq]; omega
    have h6 : (k == 6) = false := by simp only [beq_eq_false_iff_ne, ne_eq]; omega
    have h7 : (k == 7) = false := by simp only [beq_eq_false_iff_ne, ne_eq]; omega
    have h8 : (k == 8) = false := by simp only [beq_eq_false_iff_ne, ne_eq]; omega
    have h9 : (k == 9) = false := by simp only [beq_eq_false_iff_ne, ne_eq]; omega
    have h10 : (k == 10) = false := by simp only [beq_eq_false_iff_ne, ne_eq]; omega
    have h11 : (k == 11) = false := by simp only [beq_eq_false_iff_ne, ne_eq]; omega
    have h12 : (k == 12) = false := by simp only [beq_eq_false_iff_ne, ne_eq]; omega
    clear h
    go_enter Tryz.func122, Tryz.ntmps122
    go_wp2
    go_ret
    exact ⟨rfl, rfl⟩
end Go.Proofs.YtpmmjaceehlpiaaGreatDoor
/-
  The program's IsName, IndexOf, AreVars, Positions: what each returns.
-/
namespace Go.Proofs.YtpmmjaceehlpiaaGreatDoor
open Go Go.RowKit

set_option maxHeartbeats 400000 in
theorem implIsName (s : ByteArray) (w : World) (hs : s.size ≤ maxLen) : Calls Tryz.prog 125 #[.string s] w fun e w' => e = .returned (.bool (goodName s)) ∧ Below w.heap.size w w' := by
  unfold maxLen at hs
  go_enter Tryz.func125, Tryz.ntmps125
  go_wp2
  go_loopw [3] (fun _ wr => ∃ k : Nat, k ≤ s.size ∧ k ≤ 2 ∧ wr = w.iter s k ∧ ∀ j (h : j < s.size), j < k → 97 ≤ (s[j]'h).toNat ∧ (s[j]'h).toNat ≤ 122) (fun _ wr => s.size - wr.iterPos w.heap.size)
  case atStart => exact ⟨0, Nat.zero_le _, by omega, rfl, fun j _ h => by omega⟩
  case round =>
    obtain ⟨k, hk, hk2, rfl, hall⟩ := hrel
    have Hall := Lib.hid hall
    clear hall
    by_cases hlt : k < s.size
    · by_cases hlow : (s[k]'hlt).toNat < 128
      · have hnx : ∀ ty, (Instr.next (.pointer (some ⟨w.heap.size, 0, none⟩)) true ty).run Tryz.prog (w.iter s k) = _ := fun ty => run_next_ascii w s k ty hlt hlow
        by_cases htwo : k = 2
        · subst htwo
          have hbad : goodName s = false := name_long hlt
          have Hbad := Lib.hid hbad
          clear hbad
          go_wp2
          go_ret
          rw [Hbad.out]
          exact ⟨rfl, (Below.refl _ _).alloc (Nat.le_refl _) _⟩
        · have htwo' : ((k : Int) == 2) = false := by simp; omega
          by_cases hlo : ((s[k]'hlt).toNat : Int) < 97
          · have hbad : goodName s = false := name_bad hlt (.inl (by omega))
            have Hbad := Lib.hid hbad
            clear hbad
            go_wp2
            go_ret
            rw [Hbad.out]
            exact ⟨rfl, (Below.refl _ _).alloc (Nat.le_refl _) _⟩
          · by_cases hhi : 122 < ((s[k]'hlt).toNat : Int)
            · have hbad : goodName s = false := name_bad hlt (.inr (by omega))
              have Hbad := Lib.hid hbad
              clear hbad
              go_wp2
              go_ret
              rw [Hbad.out]
              exact ⟨rfl, (Below.refl _ _).alloc (Nat.le_refl _) _⟩
            · go_wp2
              go_roundw
              case rel =>
                refine ⟨k + 1, by omega, by omega, rfl, fun j h hj => ?_⟩
                by_cases hjk : j = k
                · subst hjk
                  omega
                · exact Hall.out j h (by omega)
              case measure => simp; omega
      · have hnx : ∀ ty, (Instr.next (.pointer (some ⟨w.heap.size, 0, none⟩)) true ty).run Tryz.prog (w.iter s k) = _ := fun ty => run_next_any w s k ty hlt
        have hhigh := (decode_high s k hlt (by omega)).1
        have hbad : goodName s = false := name_bad hlt (.inr (by omega))
        have Hbad := Lib.hid hbad
        clear hbad
        generalize Utf8.decode s k = dc at *
        have hlo : ¬ (dc.1 : Int) < 97 := by omega
        have hhi : 122 < (dc.1 : Int) := by omega
        by_cases htwo : k = 2
        · subst htwo
          go_wp2
          go_ret
          rw [Hbad.out]
          exact ⟨rfl, (Below.refl _ _).alloc (Nat.le_refl _) _⟩
        · have htwo' : ((k : Int) == 2) = false := by simp; omega
          go_wp2
          go_ret
          rw [Hbad.out]
          exact ⟨rfl, (Below.refl _ _).alloc (Nat.le_refl _) _⟩
    · have hnx : ∀ ty, (Instr.next (.pointer (some ⟨w.heap.size, 0, none⟩)) true ty).run Tryz.prog (w.iter s k) = _ := fun ty => run_next_end w s k ty hlt
      have hgood : goodName s = decide (1 ≤ s.size ∧ s.size ≤ 2) := name_whole fun j h => Hall.out j h (by omega)
      have Hgood := Lib.hid hgood
      clear hgood
      by_cases h0 : s = ⟨#[]⟩
      · subst h0
        go_wp2
        go_ret
        rw [Hgood.out]
        exact ⟨rfl, (Below.refl _ _).alloc (Nat.le_refl _) _⟩
      · have hsz : 1 ≤ s.size := by
          rcases Nat.eq_zero_or_pos s.size with h | h
          · exact absurd (ByteArray.size_eq_zero_iff.1 h) h0
          · exact h
        have hne : s.toList.isEmpty = false := by
          rw [ByteArray.toList_eq]
          simpa using (fun h => by simp [ByteArray.size, h] at hsz)
        go_wp2
        go_ret
        rw [Hgood.out, decide_eq_true ⟨hsz, by omega⟩]
        exact ⟨rfl, (Below.refl _ _).alloc (Nat.le_refl _) _⟩

set_option maxHeartbeats 400000 in
theorem implIndexOf (a : Option Addr) (cap : Nat) (ss : List ByteArray) (s : ByteArray) (w : World) (hlen : ss.length ≤ maxLen) (hrow : Row w w.heap.size a (strVals ss)) :
    Calls Tryz.prog 126 #[.slice a ss.length cap, .string s] w fun e w' => e = .returned (.int .i64 (place ss s)) ∧ w = w' := by
  unfold maxLen at hlen
  go_enter Tryz.func126, Tryz.ntmps126
  go_wp2
  go_loop [9] (fun i => ∃ k : Nat, k ≤ ss.length ∧ i = .int .i64 k ∧ place ss s = placeFrom s k (ss.drop k)) (fun i => ss.length - (intOf i).toNat)
  case atStart => exact ⟨0, Nat.zero_le _, rfl, rfl⟩
  case round =>
    obtain ⟨k, hk, rfl, hp⟩ := hrel
    by_cases hlt : k < ss.length
    · obtain ⟨b, o, rfl, hbW, hc⟩ := hrow k (.string ss[k]) (by simp [strVals, hlt])
      cases he : (ss[k].toList == s.toList) with
      | true =>
        rw [place_hit hlt he] at hp
        have Hp := Lib.hid hp
        clear hp
        go_wp2
        go_ret
        rw [Hp.out]
        exact ⟨rfl, rfl⟩
      | false =>
        rw [place_miss hlt he] at hp
        have Hp := Lib.hid hp
        clear hp
        go_wp2
        go_round
        case rel => exact ⟨k + 1, by omega, by go_num, Hp.out⟩
        case measure => simp [intOf]; omega
    · rw [place_end (by omega)] at hp
      have Hp := Lib.hid hp
      clear hp
      go_wp2
      go_ret
      rw [Hp.out]
      exact ⟨rfl, rfl⟩

set_option maxHeartbeats 400000 in
theorem implAreVars (a : Option Addr) (cap : Nat) (ss : List ByteArray) (w : World) (hlen : ss.length ≤ maxLen) (hws : ∀ s ∈ ss, s.size ≤ maxLen) (hrow : Row w w.heap.size a (strVals ss)) :
    Calls Tryz.prog 91 #[.slice a ss.length cap] w fun e w' => e = .returned (.bool (goodVars ss)) ∧ Below w.heap.size w w' := by
  have hlen' := hlen
  unfold maxLen at hlen
  by_cases hin : 1 ≤ ss.length ∧ ss.length ≤ 4
  · have h0 : ((ss.length : Int) == 0) = false := by simp only [beq_eq_false_iff_ne, ne_eq]; omega
    have h4 : ¬ 4 < (ss.length : Int) := by omega
    go_enter Tryz.func91, Tryz.ntmps91
    go_wp2
    go_loopw [15] (fun i wr => ∃ k : Nat, k ≤ ss.length ∧ i = .int .i64 k ∧ Below w.heap.size w wr ∧ ∀ j (h : j < ss.length), j < k → goodName ss[j] = true ∧ place ss ss[j] = (j : Int)) (fun i _ => ss.length - (intOf i).toNat)
    case atStart => exact ⟨0, Nat.zero_le _, rfl, Below.refl _ _, fun j _ h => by omega⟩
    case round =>
      obtain ⟨k, hk, rfl, hb, hall⟩ := hrel
      have Hall := Lib.hid hall
      clear hall
      by_cases hlt : k < ss.length
      · obtain ⟨b, o, rfl, hbW, hc0⟩ := hrow k (.string ss[k]) (by simp [strVals, hlt])
        have hc : wr.cell? ⟨b, o + k, none⟩ = some (.string ss[k]) := (hb.cell (p := ⟨b, o + k, none⟩) hbW).trans hc0
        clear hc0
        have hsz := hws ss[k] (List.getElem_mem hlt)
        cases hg : goodName ss[k] with
        | false =>
          have hbad : goodVars ss = false := vars_bad hlt (by rw [hg]; simp)
          have Hbad := Lib.hid hbad
          have Hg := Lib.hid hg
          clear hbad hg
          go_wp2_with fail
          refine (implIsName ss[k] _ hsz).mono ?_
          rintro e w1 ⟨rfl, hb1⟩
          rw [Hg.out]
          have hb2 := hb.trans (hb1.mono hb.size)
          clear hb1
          go_wp2
          go_ret
          rw [Hbad.out]
          exact ⟨rfl, hb2⟩
        | true =>
          have Hg := Lib.hid hg
          clear hg
          go_wp2_with fail
          refine (implIsName ss[k] _ hsz).mono ?_
          rintro e w1 ⟨rfl, hb1⟩
          rw [Hg.out]
          have hb2 := hb.trans (hb1.mono hb.size)
          clear hb1 hc
          go_wp2_with fail
          refine (implIndexOf _ _ ss ss[k] _ hlen' ((hrow.below hb2).grow hb2.size)).mono ?_
          rintro e w1 ⟨rfl, rfl⟩
          by_cases hp : place ss ss[k] = (k : Int)
          · rw [hp]
            have Hp := Lib.hid hp
            clear hp
            go_wp2
            go_roundw
            case rel =>
              refine ⟨k + 1, by omega, by go_num, hb2, fun j h hj => ?_⟩
              by_cases hjk : j = k
              · subst hjk
                exact ⟨Hg.out, Hp.out⟩
              · exact Hall.out j h (by omega)
            case measure => simp [intOf]; omega
          · have hbad : goodVars ss = false := vars_bad hlt (fun h => hp h.2)
            have Hbad := Lib.hid hbad
            have hne : (place ss ss[k] != (k : Int)) = true := by simpa using hp
            clear hbad
            generalize place ss ss[k] = q at *
            go_wp2
            go_ret
            rw [Hbad.out]
            exact ⟨rfl, hb2⟩
      · have hgood : goodVars ss = true := by
          rw [vars_whole fun j h => Hall.out j h (by omega)]
          exact decide_eq_true hin
        have Hgood := Lib.hid hgood
        clear hgood
        go_wp2
        go_ret
        rw [Hgood.out]
        exact ⟨rfl, hb⟩
  · have hbad : goodVars ss = false := vars_length hin
    have Hbad := Lib.hid hbad
    clear hbad
    rcases Nat.eq_zero_or_pos ss.length with h | h
    · rw [h]
      go_enter Tryz.func91, Tryz.ntmps91
      go_wp2
      go_ret
      rw [Hbad.out]
      exact ⟨rfl, Below.refl _ _⟩
    · have h0 : ((ss.length : Int) == 0) = false := by simp only [beq_eq_false_iff_ne, ne_eq]; omega
      have h4 : 4 < (ss.length : Int) := by omega
      go_enter Tryz.func91, Tryz.ntmps91
      go_wp2
      go_ret
      rw [Hbad.out]
      exact ⟨rfl, Below.refl _ _⟩

set_option maxRecDepth 100000 in
set_option maxHeartbeats 800000 in
theorem implPositions (a : Option Addr) (cap : Nat) (ns : List Int) (n : Int) (w : World) (hlen : ns.length ≤ 1048576) (hrow : Row w w.heap.size a (intVals ns)) :
    Calls Tryz.prog 99 #[.slice a ns.length cap, .int .i64 n] w (Built w.heap.size 3 (intVals (posFrom n 0 ns)) w) := by
  obtain ⟨i0, hi, hz0, hz1, hz2⟩ := info_parts numInfo
  go_enter Tryz.func99, Tryz.ntmps99
  go_wp2
  go_loopw [5, 10] (fun v i wr => ∃ (k : Nat) (qs : List Int), k ≤ ns.length ∧ i = .int .i64 k ∧ qs.length ≤ k ∧ qs ++ posFrom n k (ns.drop k) = posFrom n 0 ns ∧ wr.ownsRow w.heap.size 3 1 v qs.length (intVals qs) ∧ Below w.heap.size w wr)
    (fun _ i _ => ns.length - (intOf i).toNat)
  case atStart => exact ⟨0, [], Nat.zero_le _, rfl, Nat.le_refl _, rfl, ⟨rfl, .inl ⟨rfl, rfl⟩⟩, Below.refl _ _⟩
  case round =>
    obtain ⟨k, qs, hk, rfl, hql, hq, hown, hbw⟩ := hrel
    have Hown := Lib.hid hown
    clear hown
    by_cases hlt : k < ns.length
    · obtain ⟨b, o, rfl, hbW, hc0⟩ := hrow k (.int .i64 ns[k]) (intVals_at ns k hlt)
      have hc : wr.cell? ⟨b, o + k, none⟩ = some (.int .i64 ns[k]) := (hbw.cell (p := ⟨b, o + k, none⟩) hbW).trans hc0
      clear hc0
      by_cases he : ns[k] = n
      · rw [pos_hit hlt he] at hq
        have Hq := Lib.hid hq
        have hd : (ns[k] == n) = true := by simpa using he
        clear hq he
        go_wp2_with (at_builtin; refine wpList_append_own _ rfl (.tmp 18) (.tmp 20) 28 rfl w.heap.size 3 i0 (.int .i64 0) 1 8 Tryz.underlying28 hi hz0 hz1 hz2 rfl (by decide) _ qs.length _ rfl (Hown.out.alloc _) ⟨wr.heap.size, 0, none⟩ 1 1 [.int .i64 (k : Int)] rfl rfl (oneCell_at _) (oneCell_int _) (by unfold maxLen; omega) (by omega) (Nat.le_trans hbw.size (by simp)) ?_; intro v2 w2 hown2 hg2 _; have hb2 := own_below (Hown.out.alloc _) hg2 (Nat.le_trans hbw.size (by simp)) (hbw.alloc hbw.size _); clear hg2)
        go_roundw
        case rel => exact ⟨k + 1, qs ++ [(k : Int)], by omega, by go_num, by simp; omega, by rw [← Hq.out]; simp, by rw [intVals_snoc, List.length_append, List.length_singleton]; exact hown2, hb2⟩
        case measure => simp [intOf]; omega
      · rw [pos_miss hlt he] at hq
        have Hq := Lib.hid hq
        have hd : (ns[k] == n) = false := by simpa using he
        clear hq he
        go_wp2
        go_roundw
        case rel => exact ⟨k + 1, qs, by omega, by go_num, by omega, Hq.out, Hown.out, hbw⟩
        case measure => simp [intOf]; omega
    · rw [pos_end (by omega), List.append_nil] at hq
      have Hq := Lib.hid hq
      clear hq
      go_wp2
      go_ret
      rw [← Hq.out]
      exact built_end (intVals_length _).symm Hown.out hbw
end Go.Proofs.YtpmmjaceehlpiaaGreatDoor
/-
  A statement over variables: what chapter 4's IsStmt comes to; the walks of the program's function and of the model's.
-/
namespace Go.Proofs.YtpmmjaceehlpiaaGreatDoor
open Go Go.RowKit

def operandB (ss : List ByteArray) (s : ByteArray) (used : Bool) : Bool := if used then decide (0 ≤ place ss s) else s.toList.isEmpty
def stmtB (ss : List ByteArray) (k : Int) (a b : ByteArray) : Bool := goodVars ss && decide (0 ≤ namesN k) && operandB ss a (decide (1 ≤ namesN k)) && operandB ss b (decide (2 ≤ namesN k))

set_option maxHeartbeats 400000 in
theorem implIsOperand (a : Option Addr) (cap : Nat) (ss : List ByteArray) (s : ByteArray) (used : Bool) (w : World) (hlen : ss.length ≤ maxLen) (hrow : Row w w.heap.size a (strVals ss)) :
    Calls Tryz.prog 128 #[.slice a ss.length cap, .string s, .bool used] w (GaveW (.bool (operandB ss s used)) w) := by
  cases used with
  | true =>
    go_enter Tryz.func128, Tryz.ntmps128
    go_wp2_with fail
    refine (implIndexOf _ _ ss s _ hlen hrow).mono ?_
    rintro e w1 ⟨rfl, rfl⟩
    go_wp2
    go_ret
    exact ⟨rfl, rfl⟩
  | false =>
    go_enter Tryz.func128, Tryz.ntmps128
    go_wp2
    go_ret
    exact ⟨rfl, rfl⟩

set_option maxHeartbeats 3200000 in
theorem implIsStmt (a : Option Addr) (cap : Nat) (ss : List ByteArray) (k : Int) (sa sb : ByteArray) (w : World) (hlen : ss.length ≤ maxLen) (hws : ∀ s ∈ ss, s.size ≤ maxLen) (hrow : Row w w.heap.size a (strVals ss)) (hT : HasNamesTable w) :
    Calls Tryz.prog 93 #[.slice a ss.length cap, stV k sa sb] w (GaveB (.bool (stmtB ss k sa sb)) w) := by
  have hT1 : HasNamesTable (w.alloc (.cells #[.int .i64 k, .string sa, .string sb] 83)) := hT.keeps ((Below.refl _ _).alloc (Nat.le_refl _) _)
  have hr1 : Row (w.alloc (.cells #[.int .i64 k, .string sa, .string sb] 83)) (w.heap.size + 1) a (strVals ss) := (hrow.below ((Below.refl _ _).alloc (Nat.le_refl _) _)).grow (by omega)
  rcases namesN_four k with hn | hn | hn | hn
  · skip
    rw [show stmtB ss k sa sb = false from by simp [stmtB, operandB, hn]]
    have HN := Lib.hid hn
    clear hn
    go_enter Tryz.func93, Tryz.ntmps93
    go_wp2_with fail
    refine (implNamesOf k _ hT1).mono ?_
    rw [HN.out]
    rintro e w1 ⟨rfl, rfl⟩
    go_wp2
    go_ret
    exact ⟨rfl, (Below.refl _ _).alloc (Nat.le_refl _) _⟩
  · cases hg : goodVars ss with
    | false =>
      rw [show stmtB ss k sa sb = false from by simp [stmtB, operandB, hg]]
      have HN := Lib.hid hn
      have HG := Lib.hid hg
      clear hn hg
      go_enter Tryz.func93, Tryz.ntmps93
      go_wp2_with fail
      refine (implNamesOf k _ hT1).mono ?_
      rw [HN.out]
      rintro e w1 ⟨rfl, rfl⟩
      go_wp2_with fail
      refine (implAreVars _ _ ss _ hlen hws (by simpa using hr1)).mono ?_
      rw [HG.out]
      rintro e w2 ⟨rfl, hb2⟩
      obtain ⟨hc2, _⟩ := bcell hb2
      have hs2 : w.heap.size < w2.heap.size := by have h := hb2.size; simp at h; omega
      have hr2 : Row w2 w2.heap.size a (strVals ss) := (hr1.below (hb2.mono (by simp))).grow (by omega)
      have hB2 : Below w.heap.size w w2 := ((Below.refl _ _).alloc (Nat.le_refl _) _).trans (hb2.mono (by simp))
      clear hb2
      go_wp2
      go_ret
      exact ⟨rfl, hB2⟩
    | true =>
      cases ha : operandB ss sa false with
      | false =>
        rw [show stmtB ss k sa sb = false from by simp [stmtB, hn, hg, ha]]
        have HN := Lib.hid hn
        have HG := Lib.hid hg
        have HA := Lib.hid ha
        clear hn hg ha
        go_enter Tryz.func93, Tryz.ntmps93
        go_wp2_with fail
        refine (implNamesOf k _ hT1).mono ?_
        rw [HN.out]
        rintro e w1 ⟨rfl, rfl⟩
        go_wp2_with fail
        refine (implAreVars _ _ ss _ hlen hws (by simpa using hr1)).mono ?_
        rw [HG.out]
        rintro e w2 ⟨rfl, hb2⟩
        obtain ⟨hc2, _⟩ := bcell hb2
        have hs2 : w.heap.size < w2.heap.size := by have h := hb2.size; simp at h; omega
        have hr2 : Row w2 w2.heap.size a (strVals ss) := (hr1.below (hb2.mono (by simp))).grow (by omega)
        have hB2 : Below w.heap.size w w2 := ((Below.refl _ _).alloc (Nat.le_refl _) _).trans (hb2.mono (by simp))
        clear hb2
        go_wp2_with fail
        refine (implIsOperand _ _ ss sa false _ hlen hr2).mono ?_
        rw [HA.out]
        rintro e w3 ⟨rfl, rfl⟩
        go_wp2
        go_ret
        exact ⟨rfl, hB2⟩
      | true =>
        rw [show stmtB ss k sa sb = operandB ss sb false from by simp [stmtB, hn, hg, ha]]
        have HN := Lib.hid hn
        have HG := Lib.hid hg
        have HA := Lib.hid ha
        clear hn hg ha
        go_enter Tryz.func93, Tryz.ntmps93
        go_wp2_with fail
        refine (implNamesOf k _ hT1).mono ?_
        rw [HN.out]
        rintro e w1 ⟨rfl, rfl⟩
        go_wp2_with fail
        refine (implAreVars _ _ ss _ hlen hws (by simpa using hr1)).mono ?_
        rw [HG.out]
        rintro e w2 ⟨rfl, hb2⟩
        obtain ⟨hc2, _⟩ := bcell hb2
        have hs2 : w.heap.size < w2.heap.size := by have h := hb2.size; simp at h; omega
        have hr2 : Row w2 w2.heap.size a (strVals ss) := (hr1.below (hb2.mono (by simp))).grow (by omega)
        have hB2 : Below w.heap.size w w2 := ((Below.refl _ _).alloc (Nat.le_refl _) _).trans (hb2.mono (by simp))
        clear hb2
        go_wp2_with fail
        refine (implIsOperand _ _ ss sa false _ hlen hr2).mono ?_
        rw [HA.out]
        rintro e w3 ⟨rfl, rfl⟩
        go_wp2_with fail
        refine (implIsOperand _ _ ss sb false _ hlen hr2).mono ?_
        rintro e w3 ⟨rfl, rfl⟩
        go_wp2
        go_ret
        exact ⟨rfl, hB2⟩
  · cases hg : goodVars ss with
    | false =>
      rw [show stmtB ss k sa sb = false from by simp [stmtB, operandB, hg]]
      have HN := Lib.hid hn
      have HG := Lib.hid hg
      clear hn hg
      go_enter Tryz.func93, Tryz.ntmps93
      go_wp2_with fail
      refine (implNamesOf k _ hT1).mono ?_
      rw [HN.out]
      rintro e w1 ⟨rfl, rfl⟩
      go_wp2_with fail
      refine (implAreVars _ _ ss _ hlen hws (by simpa using hr1)).mono ?_
      rw [HG.out]
      rintro e w2 ⟨rfl, hb2⟩
      obtain ⟨hc2, _⟩ := bcell hb2
      have hs2 : w.heap.size < w2.heap.size := by have h := hb2.size; simp at h; omega
      have hr2 : Row w2 w2.heap.size a (strVals ss) := (hr1.below (hb2.mono (by simp))).grow (by omega)
      have hB2 : Below w.heap.size w w2 := ((Below.refl _ _).alloc (Nat.le_refl _) _).trans (hb2.mono (by simp))
      clear hb2
      go_wp2
      go_ret
      exact ⟨rfl, hB2⟩
    | true =>
      cases ha : operandB ss sa true with
      | false =>
        rw [show stmtB ss k sa sb = false from by simp [stmtB, hn, hg, ha]]
        have HN := Lib.hid hn
        have HG := Lib.hid hg
        have HA := Lib.hid ha
        clear hn hg ha
        go_enter Tryz.func93, Tryz.ntmps93
        go_wp2_with fail
        refine (implNamesOf k _ hT1).mono ?_
        rw [HN.out]
        rintro e w1 ⟨rfl, rfl⟩
        go_wp2_with fail
        refine (implAreVars _ _ ss _ hlen hws (by simpa using hr1)).mono ?_
        rw [HG.out]
        rintro e w2 ⟨rfl, hb2⟩
        obtain ⟨hc2, _⟩ := bcell hb2
        have hs2 : w.heap.size < w2.heap.size := by have h := hb2.size; simp at h; omega
        have hr2 : Row w2 w2.heap.size a (strVals ss) := (hr1.below (hb2.mono (by simp))).grow (by omega)
        have hB2 : Below w.heap.size w w2 := ((Below.refl _ _).alloc (Nat.le_refl _) _).trans (hb2.mono (by simp))
        clear hb2
        go_wp2_with fail
        refine (implIsOperand _ _ ss sa true _ hlen hr2).mono ?_
        rw [HA.out]
        rintro e w3 ⟨rfl, rfl⟩
        go_wp2
        go_ret
        exact ⟨rfl, hB2⟩
      | true =>
        rw [show stmtB ss k sa sb = operandB ss sb false from by simp [stmtB, hn, hg, ha]]
        have HN := Lib.hid hn
        have HG := Lib.hid hg
        have HA := Lib.hid ha
        clear hn hg ha
        go_enter Tryz.func93, Tryz.ntmps93
        go_wp2_with fail
        refine (implNamesOf k _ hT1).mono ?_
        rw [HN.out]
        rintro e w1 ⟨rfl, rfl⟩
        go_wp2_with fail
        refine (implAreVars _ _ ss _ hlen hws (by simpa using hr1)).mono ?_
        rw [HG.out]
        rintro e w2 ⟨rfl, hb2⟩
        obtain ⟨hc2, _⟩ := bcell hb2
        have hs2 : w.heap.size < w2.heap.size := by have h := hb2.size; simp at h; omega
        have hr2 : Row w2 w2.heap.size a (strVals ss) := (hr1.below (hb2.mono (by simp))).grow (by omega)
        have hB2 : Below w.heap.size w w2 := ((Below.refl _ _).alloc (Nat.le_refl _) _).trans (hb2.mono (by simp))
        clear hb2
        go_wp2_with fail
        refine (implIsOperand _ _ ss sa true _ hlen hr2).mono ?_
        rw [HA.out]
        rintro e w3 ⟨rfl, rfl⟩
        go_wp2_with fail
        refine (implIsOperand _ _ ss sb false _ hlen hr2).mono ?_
        rintro e w3 ⟨rfl, rfl⟩
        go_wp2
        go_ret
        exact ⟨rfl, hB2⟩
  · cases hg : goodVars ss with
    | false =>
      rw [show stmtB ss k sa sb = false from by simp [stmtB, operandB, hg]]
      have HN := Lib.hid hn
      have HG := Lib.hid hg
      clear hn hg
      go_enter Tryz.func93, Tryz.ntmps93
      go_wp2_with fail
      refine (implNamesOf k _ hT1).mono ?_
      rw [HN.out]
      rintro e w1 ⟨rfl, rfl⟩
      go_wp2_with fail
      refine (implAreVars _ _ ss _ hlen hws (by simpa using hr1)).mono ?_
      rw [HG.out]
      rintro e w2 ⟨rfl, hb2⟩
      obtain ⟨hc2, _⟩ := bcell hb2
      have hs2 : w.heap.size < w2.heap.size := by have h := hb2.size; simp at h; omega
      have hr2 : Row w2 w2.heap.size a (strVals ss) := (hr1.below (hb2.mono (by simp))).grow (by omega)
      have hB2 : Below w.heap.size w w2 := ((Below.refl _ _).alloc (Nat.le_refl _) _).trans (hb2.mono (by simp))
      clear hb2
      go_wp2
      go_ret
      exact ⟨rfl, hB2⟩
    | true =>
      cases ha : operandB ss sa true with
      | false =>
        rw [show stmtB ss k sa sb = false from by simp [stmtB, hn, hg, ha]]
        have HN := Lib.hid hn
        have HG := Lib.hid hg
        have HA := Lib.hid ha
        clear hn hg ha
        go_enter Tryz.func93, Tryz.ntmps93
        go_wp2_with fail
        refine (implNamesOf k _ hT1).mono ?_
        rw [HN.out]
        rintro e w1 ⟨rfl, rfl⟩
        go_wp2_with fail
        refine (implAreVars _ _ ss _ hlen hws (by simpa using hr1)).mono ?_
        rw [HG.out]
        rintro e w2 ⟨rfl, hb2⟩
        obtain ⟨hc2, _⟩ := bcell hb2
        have hs2 : w.heap.size < w2.heap.size := by have h := hb2.size; simp at h; omega
        have hr2 : Row w2 w2.heap.size a (strVals ss) := (hr1.below (hb2.mono (by simp))).grow (by omega)
        have hB2 : Below w.heap.size w w2 := ((Below.refl _ _).alloc (Nat.le_refl _) _).trans (hb2.mono (by simp))
        clear hb2
        go_wp2_with fail
        refine (implIsOperand _ _ ss sa true _ hlen hr2).mono ?_
        rw [HA.out]
        rintro e w3 ⟨rfl, rfl⟩
        go_wp2
        go_ret
        exact ⟨rfl, hB2⟩
      | true =>
        rw [show stmtB ss k sa sb = operandB ss sb true from by simp [stmtB, hn, hg, ha]]
        have HN := Lib.hid hn
        have HG := Lib.hid hg
        have HA := Lib.hid ha
        clear hn hg ha
        go_enter Tryz.func93, Tryz.ntmps93
        go_wp2_with fail
        refine (implNamesOf k _ hT1).mono ?_
        rw [HN.out]
        rintro e w1 ⟨rfl, rfl⟩
        go_wp2_with fail
        refine (implAreVars _ _ ss _ hlen hws (by simpa using hr1)).mono ?_
        rw [HG.out]
        rintro e w2 ⟨rfl, hb2⟩
        obtain ⟨hc2, _⟩ := bcell hb2
        have hs2 : w.heap.size < w2.heap.size := by have h := hb2.size; simp at h; omega
        have hr2 : Row w2 w2.heap.size a (strVals ss) := (hr1.below (hb2.mono (by simp))).grow (by omega)
        have hB2 : Below w.heap.size w w2 := ((Below.refl _ _).alloc (Nat.le_refl _) _).trans (hb2.mono (by simp))
        clear hb2
        go_wp2_with fail
        refine (implIsOperand _ _ ss sa true _ hlen hr2).mono ?_
        rw [HA.out]
        rintro e w3 ⟨rfl, rfl⟩
        go_wp2_with fail
        refine (implIsOperand _ _ ss sb true _ hlen hr2).mono ?_
        rintro e w3 ⟨rfl, rfl⟩
        go_wp2
        go_ret
        exact ⟨rfl, hB2⟩

set_option maxHeartbeats 3200000 in
theorem specIsStmt (a : Option Addr) (cap : Nat) (ss : List ByteArray) (k : Int) (sa sb : ByteArray) (w : World) (hlen : ss.length ≤ maxLen) (hws : ∀ s ∈ ss, s.size ≤ maxLen) (hrow : Row w w.heap.size a (strVals ss)) :
    Calls Tryz.prog 101 #[.slice a ss.length cap, stV k sa sb] w (GaveB (.bool (stmtB ss k sa sb)) w) := by
  have hr1 : Row (w.alloc (.cells #[.int .i64 k, .string sa, .string sb] 83)) (w.heap.size + 1) a (strVals ss) := (hrow.below ((Below.refl _ _).alloc (Nat.le_refl _) _)).grow (by omega)
  have hB1 : Below w.heap.size w (w.alloc (.cells #[.int .i64 k, .string sa, .string sb] 83)) := (Below.refl _ _).alloc (Nat.le_refl _) _
  rcases namesN_four k with hn | hn | hn | hn
  · cases hg : goodVars ss with
    | false =>
      rw [show stmtB ss k sa sb = false from by simp [stmtB, operandB, hg]]
      have HN := Lib.hid hn
      have HG := Lib.hid hg
      clear hn hg
      go_enter Tryz.func101, Tryz.ntmps101
      go_wp2_with fail
      refine (specNamesOf k _).mono ?_
      rw [HN.out]
      rintro e w1 ⟨rfl, rfl⟩
      go_wp2_with fail
      refine (specAreVars _ _ ss _ hlen hws (by simpa using hr1)).mono ?_
      rw [HG.out]
      rintro e w2 ⟨rfl, rfl⟩
      go_wp2
      go_ret
      exact ⟨rfl, hB1⟩
    | true =>
      rw [show stmtB ss k sa sb = false from by simp [stmtB, operandB, hn]]
      have HN := Lib.hid hn
      have HG := Lib.hid hg
      clear hn hg
      go_enter Tryz.func101, Tryz.ntmps101
      go_wp2_with fail
      refine (specNamesOf k _).mono ?_
      rw [HN.out]
      rintro e w1 ⟨rfl, rfl⟩
      go_wp2_with fail
      refine (specAreVars _ _ ss _ hlen hws (by simpa using hr1)).mono ?_
      rw [HG.out]
      rintro e w2 ⟨rfl, rfl⟩
      go_wp2
      go_ret
      exact ⟨rfl, hB1⟩
  · cases hg : goodVars ss with
    | false =>
      rw [show stmtB ss k sa sb = false from by simp [stmtB, operandB, hg]]
      have HN := Lib.hid hn
      have HG := Lib.hid hg
      clear hn hg
      go_enter Tryz.func101, Tryz.ntmps101
      go_wp2_with fail
      refine (specNamesOf k _).mono ?_
      rw [HN.out]
      rintro e w1 ⟨rfl, rfl⟩
      go_wp2_with fail
      refine (specAreVars _ _ ss _ hlen hws (by simpa using hr1)).mono ?_
      rw [HG.out]
      rintro e w2 ⟨rfl, rfl⟩
      go_wp2
      go_ret
      exact ⟨rfl, hB1⟩
    | true =>
      cases ha : sa.toList.isEmpty with
      | false =>
        rw [show stmtB ss k sa sb = false from by simp [stmtB, operandB, hn, hg, ha]]
        have HN := Lib.hid hn
        have HG := Lib.hid hg
        clear hn hg
        go_enter Tryz.func101, Tryz.ntmps101
        go_wp2_with fail
        refine (specNamesOf k _).mono ?_
        rw [HN.out]
        rintro e w1 ⟨rfl, rfl⟩
        go_wp2_with fail
        refine (specAreVars _ _ ss _ hlen hws (by simpa using hr1)).mono ?_
        rw [HG.out]
        rintro e w2 ⟨rfl, rfl⟩
        go_wp2
        go_ret
        exact ⟨rfl, hB1⟩
      | true =>
        cases hb : sb.toList.isEmpty with
        | false =>
          rw [show stmtB ss k sa sb = false from by simp [stmtB, operandB, hn, hg, ha, hb]]
          have HN := Lib.hid hn
          have HG := Lib.hid hg
          clear hn hg
          go_enter Tryz.func101, Tryz.ntmps101
          go_wp2_with fail
          refine (specNamesOf k _).mono ?_
          rw [HN.out]
          rintro e w1 ⟨rfl, rfl⟩
          go_wp2_with fail
          refine (specAreVars _ _ ss _ hlen hws (by simpa using hr1)).mono ?_
          rw [HG.out]
          rintro e w2 ⟨rfl, rfl⟩
          go_wp2
          go_ret
          exact ⟨rfl, hB1⟩
        | true =>
          rw [show stmtB ss k sa sb = true from by simp [stmtB, operandB, hn, hg, ha, hb]]
          have HN := Lib.hid hn
          have HG := Lib.hid hg
          clear hn hg
          go_enter Tryz.func101, Tryz.ntmps101
          go_wp2_with fail
          refine (specNamesOf k _).mono ?_
          rw [HN.out]
          rintro e w1 ⟨rfl, rfl⟩
          go_wp2_with fail
          refine (specAreVars _ _ ss _ hlen hws (by simpa using hr1)).mono ?_
          rw [HG.out]
          rintro e w2 ⟨rfl, rfl⟩
          go_wp2
          go_ret
          exact ⟨rfl, hB1⟩
  · cases hg : goodVars ss with
    | false =>
      rw [show stmtB ss k sa sb = false from by simp [stmtB, operandB, hg]]
      have HN := Lib.hid hn
      have HG := Lib.hid hg
      clear hn hg
      go_enter Tryz.func101, Tryz.ntmps101
      go_wp2_with fail
      refine (specNamesOf k _).mono ?_
      rw [HN.out]
      rintro e w1 ⟨rfl, rfl⟩
      go_wp2_with fail
      refine (specAreVars _ _ ss _ hlen hws (by simpa using hr1)).mono ?_
      rw [HG.out]
      rintro e w2 ⟨rfl, rfl⟩
      go_wp2
      go_ret
      exact ⟨rfl, hB1⟩
    | true =>
      cases hb : sb.toList.isEmpty with
      | false =>
        rw [show stmtB ss k sa sb = false from by simp [stmtB, operandB, hn, hg, hb]]
        have HN := Lib.hid hn
        have HG := Lib.hid hg
        clear hn hg
        go_enter Tryz.func101, Tryz.ntmps101
        go_wp2_with fail
        refine (specNamesOf k _).mono ?_
        rw [HN.out]
        rintro e w1 ⟨rfl, rfl⟩
        go_wp2_with fail
        refine (specAreVars _ _ ss _ hlen hws (by simpa using hr1)).mono ?_
        rw [HG.out]
        rintro e w2 ⟨rfl, rfl⟩
        go_wp2
        go_ret
        exact ⟨rfl, hB1⟩
      | true =>
        cases hp : decide (0 ≤ place ss sa) with
        | false =>
          rw [show stmtB ss k sa sb = false from by simp [stmtB, operandB, hn, hg, hb, hp]]
          have HN := Lib.hid hn
          have HG := Lib.hid hg
          clear hn hg
          go_enter Tryz.func101, Tryz.ntmps101
          go_wp2_with fail
          refine (specNamesOf k _).mono ?_
          rw [HN.out]
          rintro e w1 ⟨rfl, rfl⟩
          go_wp2_with fail
          refine (specAreVars _ _ ss _ hlen hws (by simpa using hr1)).mono ?_
          rw [HG.out]
          rintro e w2 ⟨rfl, rfl⟩
          go_wp2_with fail
          refine (specIndexOf _ _ ss sa _ hlen (by simpa using hr1)).mono ?_
          rintro e w2 ⟨rfl, rfl⟩
          go_wp2
          go_ret
          exact ⟨rfl, hB1⟩
        | true =>
          rw [show stmtB ss k sa sb = true from by simp [stmtB, operandB, hn, hg, hb, hp]]
          have HN := Lib.hid hn
          have HG := Lib.hid hg
          clear hn hg
          go_enter Tryz.func101, Tryz.ntmps101
          go_wp2_with fail
          refine (specNamesOf k _).mono ?_
          rw [HN.out]
          rintro e w1 ⟨rfl, rfl⟩
          go_wp2_with fail
          refine (specAreVars _ _ ss _ hlen hws (by simpa using hr1)).mono ?_
          rw [HG.out]
          rintro e w2 ⟨rfl, rfl⟩
          go_wp2_with fail
          refine (specIndexOf _ _ ss sa _ hlen (by simpa using hr1)).mono ?_
          rintro e w2 ⟨rfl, rfl⟩
          go_wp2
          go_ret
          exact ⟨rfl, hB1⟩
  · cases hg : goodVars ss with
    | false =>
      rw [show stmtB ss k sa sb = false from by simp [stmtB, operandB, hg]]
      have HN := Lib.hid hn
      have HG := Lib.hid hg
      clear hn hg
      go_enter Tryz.func101, Tryz.ntmps101
      go_wp2_with fail
      refine (specNamesOf k _).mono ?_
      rw [HN.out]
      rintro e w1 ⟨rfl, rfl⟩
      go_wp2_with fail
      refine (specAreVars _ _ ss _ hlen hws (by simpa using hr1)).mono ?_
      rw [HG.out]
      rintro e w2 ⟨rfl, rfl⟩
      go_wp2
      go_ret
      exact ⟨rfl, hB1⟩
    | true =>
      cases hp : decide (0 ≤ place ss sa) with
      | false =>
        rw [show stmtB ss k sa sb = false from by simp [stmtB, operandB, hn, hg, hp]]
        have HN := Lib.hid hn
        have HG := Lib.hid hg
        clear hn hg
        go_enter Tryz.func101, Tryz.ntmps101
        go_wp2_with fail
        refine (specNamesOf k _).mono ?_
        rw [HN.out]
        rintro e w1 ⟨rfl, rfl⟩
        go_wp2_with fail
        refine (specAreVars _ _ ss _ hlen hws (by simpa using hr1)).mono ?_
        rw [HG.out]
        rintro e w2 ⟨rfl, rfl⟩
        go_wp2_with fail
        refine (specIndexOf _ _ ss sa _ hlen (by simpa using hr1)).mono ?_
        rintro e w2 ⟨rfl, rfl⟩
        go_wp2
        go_ret
        exact ⟨rfl, hB1⟩
      | true =>
        rw [show stmtB ss k sa sb = decide (0 ≤ place ss sb) from by simp [stmtB, operandB, hn, hg, hp]]
        have HN := Lib.hid hn
        have HG := Lib.hid hg
        clear hn hg
        go_enter Tryz.func101, Tryz.ntmps101
        go_wp2_with fail
        refine (specNamesOf k _).mono ?_
        rw [HN.out]
        rintro e w1 ⟨rfl, rfl⟩
        go_wp2_with fail
        refine (specAreVars _ _ ss _ hlen hws (by simpa using hr1)).mono ?_
        rw [HG.out]
        rintro e w2 ⟨rfl, rfl⟩
        go_wp2_with fail
        refine (specIndexOf _ _ ss sa _ hlen (by simpa using hr1)).mono ?_
        rintro e w2 ⟨rfl, rfl⟩
        go_wp2_with fail
        refine (specIndexOf _ _ ss sb _ hlen (by simpa using hr1)).mono ?_
        rintro e w2 ⟨rfl, rfl⟩
        go_wp2
        go_ret
        exact ⟨rfl, hB1⟩
end Go.Proofs.YtpmmjaceehlpiaaGreatDoor
