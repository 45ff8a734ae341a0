/-
  Several texts of one proof in one file, in the order in which they build.
-/
import Derived.Shelf.Slices.Turned
import Derived.Shelf.Slices.Equal
import Derived.Ground.Names2Prog
import Derived.Shelf.Slices.Clone
import Derived.Shelf.Slices.Delete
import Derived.Shelf.Slices.Cells
import Derived.Shelf.Slices.Empties2
import Derived.Test.YtpmmjaceehlpiaaGreatDoorProg
import Derived.LaidLaws
import Derived.OpenVars
import Derived.OpenShut
import Derived.ChangeArms
import Derived.Stop.LaidErr
import Derived.Lib.LaidTab
import Derived.Test.YtpmmjaceehlpiaaGreatDoorChecked
import Derived.Laws.ResultCell
import Derived.Laws.BitsAllLaws
import Derived.Laws.BitsLemmas
import Derived.Test.YtpmmjaceehlpiaaGreatDoorRows
import Derived.Laws.RangeAny
import Derived.Laws.IdiomCopy
import Derived.Deep.RegionHeld3
import Derived.Maps.AppendAt
import Derived.Test.YtpmmjaceehlpiaaGreatDoorF01
import Derived.Test.YtpmmjaceehlpiaaGreatDoorF02
import Derived.Test.YtpmmjaceehlpiaaGreatDoorF03
/-
  Contracts of Go's library, taken from the kit's shelf at this seat's numbers: nothing is walked here, each is one application.
-/
namespace Go.Proofs
open Go.Shelf
def Tryz.lays107_ren : Go.Shelf.Ren := ⟨fun | 107 => 53 | 108 => 98 | n => n, fun | 28 => 28 | 3 => 3 | 4 => 4 | 0 => 0 | n => n, fun | n => n⟩
theorem Tryz.lays107 : Go.Proofs.Lays.n107 Tryz.prog Tryz.lays107_ren := {
  mixed := by kernel_rfl
  f107 := Tryz.func53.trans (congrArg some (by kernel_rfl))
  f108 := Tryz.func98.trans (congrArg some (by kernel_rfl))
  t0 := Tryz.underlying0
  a0 := Tryz.isAgg0
  z0 := Tryz.sizeOf0
  v0 := Tryz.zeroValue0
  t3 := Tryz.underlying3
  a3 := Tryz.isAgg3
  z3 := Tryz.sizeOf3
  v3 := Tryz.zeroValue3
  t4 := Tryz.underlying4
  a4 := Tryz.isAgg4
  z4 := Tryz.sizeOf4
  v4 := Tryz.zeroValue4
  t28 := Tryz.underlying28
  a28 := Tryz.isAgg28
  z28 := Tryz.sizeOf28
  v28 := Tryz.zeroValue28 }
open Go.Lib in
theorem Tryz.slices_Contains_int (b off n c : Nat) (zs : List Int) (x : Int) (w : World) (hz : n ≤ zs.length) (hbig : n ≤ 9223372036854775807) (hc : ∀ j, j < zs.length → w.cell? ⟨b, off + j, none⟩ = some (.int .i64 (zs.getD j 0))) :
    Calls Tryz.prog 53 #[.slice (some ⟨b, off, none⟩) n c, .int .i64 x] w fun e w' => e = .returned (.bool ((zs.take n).contains x)) ∧ w' = w := Any.slices_Contains_int Tryz.lays107 b off n c zs x w hz hbig hc
open Go.Lib in
theorem Tryz.slices_Contains_int_empty (a : Option Addr) (c : Nat) (x : Int) (w : World) :
    Calls Tryz.prog 53 #[.slice a 0 c, .int .i64 x] w fun e w' => e = .returned (.bool false) ∧ w' = w := Any.slices_Contains_int_empty Tryz.lays107 a c x w
def Tryz.laysNm215_ren : Go.Shelf.Ren := ⟨fun | 15 => 97 | n => n, fun | 22 => 28 | 3 => 3 | 4 => 4 | n => n, fun | n => n⟩
theorem Tryz.laysNm215 : Go.Proofs.Lays2.n15 Tryz.prog Tryz.laysNm215_ren := {
  mixed := by kernel_rfl
  f15 := Tryz.func97.trans (congrArg some (by kernel_rfl))
  t3 := Tryz.underlying3
  a3 := Tryz.isAgg3
  z3 := Tryz.sizeOf3
  v3 := Tryz.zeroValue3
  t4 := Tryz.underlying4
  a4 := Tryz.isAgg4
  z4 := Tryz.sizeOf4
  v4 := Tryz.zeroValue4
  t22 := Tryz.underlying28
  a22 := Tryz.isAgg28
  z22 := Tryz.sizeOf28
  v22 := Tryz.zeroValue28
  i3 := by kernel_rfl }
open Go.RowKit Go.Lib in
theorem Tryz.slices_Clone_int (b off n c : Nat) (zs : List Int) (w : World) (hz : n ≤ zs.length) (hbig : n * 8 ≤ 140737488355328) (hc : ∀ j, j < zs.length → w.cell? ⟨b, off + j, none⟩ = some (.int .i64 (zs.getD j 0))) :
    Calls Tryz.prog 97 #[.slice (some ⟨b, off, none⟩) n c] w fun e w' => ∃ v', e = .returned v' ∧ w'.ownsRow w.heap.size 3 1 v' n ((zs.take n).map (Value.int .i64)) ∧ v' ≠ .slice none 0 0 ∧ Below w.heap.size w w' := Any.slices_Clone_int Tryz.laysNm215 b off n c zs w hz hbig hc
open Go.RowKit Go.Lib in
theorem Tryz.slices_Clone_int_nil (n c : Nat) (w : World) :
    Calls Tryz.prog 97 #[.slice none n c] w fun e w' => e = .returned (.slice none 0 0) ∧ w' = w := Any.slices_Clone_int_nil Tryz.laysNm215 n c w
open Go.RowKit Go.Lib in
theorem Tryz.slices_Clone_int_zero (a : Addr) (c : Nat) (w : World) :
    Calls Tryz.prog 97 #[.slice (some a) 0 c] w fun e w' => ∃ v', e = .returned v' ∧ w'.ownsRow w.heap.size 3 1 v' 0 [] ∧ v' ≠ .slice none 0 0 ∧ Below w.heap.size w w' := Any.slices_Clone_int_zero Tryz.laysNm215 a c w
def Tryz.laysNm223_ren : Go.Shelf.Ren := ⟨fun | 23 => 168 | n => n, fun | 22 => 28 | 3 => 3 | 4 => 4 | 0 => 0 | n => n, fun | n => n⟩
theorem Tryz.laysNm223 : Go.Proofs.Lays2.n23 Tryz.prog Tryz.laysNm223_ren := {
  mixed := by kernel_rfl
  f23 := Tryz.func168.trans (congrArg some (by kernel_rfl))
  t0 := Tryz.underlying0
  a0 := Tryz.isAgg0
  z0 := Tryz.sizeOf0
  v0 := Tryz.zeroValue0
  t3 := Tryz.underlying3
  a3 := Tryz.isAgg3
  z3 := Tryz.sizeOf3
  v3 := Tryz.zeroValue3
  t4 := Tryz.underlying4
  a4 := Tryz.isAgg4
  z4 := Tryz.sizeOf4
  v4 := Tryz.zeroValue4
  t22 := Tryz.underlying28
  a22 := Tryz.isAgg28
  z22 := Tryz.sizeOf28
  v22 := Tryz.zeroValue28
  i3 := by kernel_rfl }
open Go.RowKit Go.Lib Go.Sort in
theorem Tryz.slices_Delete_int_cells (b off n c i j : Nat) (zs : List Int) (w : World) (hz : n ≤ zs.length) (hcap : n ≤ c) (hm : c ≤ 9223372036854775807) (hij : i ≤ j) (hj : j ≤ n) (hc : ∀ j, j < zs.length → w.cell? ⟨b, off + j, none⟩ = some (.int .i64 (zs.getD j 0))) (hf : ∀ j, j < n → w.frozen? ⟨b, off + j, none⟩ = false) :
    Calls Tryz.prog 168 #[.slice (some ⟨b, off, none⟩) n c, .int .i64 i, .int .i64 j] w fun e w' => e = .returned (.slice (some ⟨b, off, none⟩) (n - (j - i)) c) ∧ ∃ q, w' = (w.drewN q).setCells b off (((zs.take n).take i ++ (zs.take n).drop j ++ List.replicate (j - i) 0).map (Value.int .i64)) := Any.slices_Delete_int_cells Tryz.laysNm223 b off n c i j zs w hz hcap hm hij hj hc hf
end Go.Proofs
/-
  What a listed table gives the walks: a package-level variable of arrays, structs, numbers, bools and strings that reads as0 a known datum holds just the cells of that datum. Nothing here knows of the program.
-/
namespace Go.Proofs.YtpmmjaceehlpiaaGreatDoor
open Go Go.RowKit Go.ChangeShapes Go.WideShapes Go.ChangeAt

mutual
/-- The cells of a plain datum. -/
def flat : DataW Unit → List Value
  | .lit (.int k n) => [.int k n]
  | .lit (.bool b) => [.bool b]
  | .lit (.string l) => [.string ⟨l.toArray⟩]
  | .agg parts => flatAll parts
  | _ => []
def flatAll : List (DataW Unit) → List Value
  | [] => []
  | d :: r => flat d ++ flatAll r
end
theorem flatAll_eq (ds : List (DataW Unit)) : flatAll ds = ds.flatMap flat := by
  induction ds with
  | nil => rfl
  | cons d r ih => simp [flatAll, ih]

/-- Fields that lie one behind the other. -/
def closeB (P : Program) : Nat → List Field → Nat → Bool
  | o, [], n => o == n
  | o, f :: r, n => f.offset == o && closeB P (o + P.cellsOf f.type) r n
/-- A type of arrays, structs, numbers, bools and strings, its parts one behind the other. -/
def flatB (P : Program) : Nat → TypeId → Bool
  | 0, _ => false
  | m + 1, t => match P.underlying t with
    | some (.int _) | some .bool | some .string => true
    | some (.array n e) => P.cellsOf t == n * P.cellsOf e && flatB P m e
    | some (.struct fs) => closeB P 0 fs.toList (P.cellsOf t) && fs.toList.all fun f => flatB P m f.type
    | _ => false

theorem split_even {α : Type} (c : Nat) : ∀ (n : Nat) (l : List α), l.length = n * c → l = (List.range n).flatMap fun i => (l.drop (i * c)).take c
  | 0, l, h => by simp at h; simp [h]
  | n + 1, l, h => by
    have h1 := split_even c n (l.drop c) (by simp [h]; rw [Nat.add_mul]; omega)
    have h2 : ((List.range n).flatMap fun i => ((l.drop c).drop (i * c)).take c) = (List.range n).flatMap fun i => (l.drop ((i + 1) * c)).take c := by
      congr 1
      funext i
      rw [List.drop_drop, Nat.add_mul, Nat.one_mul, Nat.add_comm]
    rw [List.range_succ_eq_map, List.flatMap_cons, List.flatMap_map, Nat.zero_mul, List.drop_zero]
    exact ((List.take_append_drop c l).symm).trans (congrArg (l.take c ++ ·) (h1.trans h2))

theorem split_close {P : Program} {α : Type} : ∀ (fs : List Field) (o n : Nat) (l : List α), closeB P o fs n = true → l.length = n → l.drop o = fs.flatMap fun f => (l.drop f.offset).take (P.cellsOf f.type)
  | [], o, n, l, h, hl => by
    simp [closeB] at h
    simp [List.drop_eq_nil_iff]
    omega
  | f :: r, o, n, l, h, hl => by
    simp only [closeB, Bool.and_eq_true, beq_iff_eq] at h
    rw [List.flatMap_cons, ← split_close r _ n l h.2 hl, h.1, ← List.drop_drop, List.take_append_drop]

theorem zip_flat {α β γ : Type} {f : α → List γ} {g : β → List γ} : ∀ (as0 : List α) (xs : List β), as0.length = xs.length → (∀ (i : Nat) a x, as0[i]? = some a → xs[i]? = some x → f a = g x) → as0.flatMap f = xs.flatMap g
  | [], [], _, _ => rfl
  | [], _ :: _, h, _ => by simp at h
  | _ :: _, [], h, _ => by simp at h
  | a :: as0, x :: xs, h, hf => by
    rw [List.flatMap_cons, List.flatMap_cons, hf 0 a x rfl rfl, zip_flat as0 xs (by simpa using h) fun i b y hb hy => hf (i + 1) b y (by simpa using hb) (by simpa using hy)]

theorem flat_agg (xs : List (DataW Unit × List MemPlace)) : flat (.agg (xs.map (·.1))) = xs.flatMap fun x => flat x.1 := by
  rw [flat, flatAll_eq, List.flatMap_map]

theorem flat_of_trod {P : Program} {w : World} {base : Nat} {sp : Nat → Bool} {held : Bool} {enc : TypeId × Value → Unit} : ∀ (m : Nat) {fuel : Nat} {t : TypeId} {cs : List Value} {d : DataW Unit} {p : List MemPlace},
    flatB P m t = true → DataW.trod enc P w base sp held fuel t cs = some (d, p) → cs = flat d
  | 0, _, _, _, _, _, hf, _ => by simp [flatB] at hf
  | m + 1, fuel, t, cs, d, p, hf, h => by
    unfold flatB at hf
    split at hf
    · rename_i k hk
      obtain ⟨n, rfl, hx, _⟩ := DataW.trod_int hk h
      simp only [Prod.mk.injEq] at hx
      rw [hx.1]; rfl
    · rename_i hk
      obtain ⟨b, rfl, hx⟩ := DataW.trod_bool hk h
      simp only [Prod.mk.injEq] at hx
      rw [hx.1]; rfl
    · rename_i hk
      obtain ⟨s, rfl, hx, _⟩ := DataW.trod_string hk h
      simp only [Prod.mk.injEq] at hx
      rw [hx.1]
      simp [flat]
    · rename_i n e hk
      simp only [Bool.and_eq_true, beq_iff_eq] at hf
      obtain ⟨xs, m', rfl, hx, hlen, hn, hel⟩ := DataW.trod_array hk h
      simp only [Prod.mk.injEq] at hx
      rw [hx.1, flat_agg, split_even (P.cellsOf e) n cs (by rw [hlen, hf.1])]
      refine zip_flat _ _ (by simp [hn]) fun i a x ha hxi => ?_
      obtain ⟨hi, rfl⟩ : i < n ∧ a = i := by
        rw [List.getElem?_eq_some_iff] at ha
        obtain ⟨h1, h2⟩ := ha
        simp at h1 h2
        exact ⟨h1, h2.symm⟩
      exact flat_of_trod m hf.2 ((hel a hi).trans hxi)
    · rename_i fs hk
      simp only [Bool.and_eq_true, List.all_eq_true] at hf
      obtain ⟨xs, m', rfl, hx, hlen, hn, hel⟩ := DataW.trod_struct hk h
      simp only [Prod.mk.injEq] at hx
      have hs := split_close fs.toList 0 _ cs hf.1 hlen
      rw [List.drop_zero] at hs
      rw [hx.1, flat_agg, hs]
      refine zip_flat _ _ (by simp [hn]) fun i a x ha hxi => ?_
      exact flat_of_trod m (hf.2 a (List.mem_of_getElem? ha)) ((hel i a (by simpa using ha)).trans hxi)
    · cases hf

/-- A listed variable of a flat type holds the cells of its datum. -/
theorem laid_at {P : Program} {W : World} : ∀ {l : List (String × DataW Unit)} (i : Nat) {name : String} {d : DataW Unit} {g : Nat} {t : TypeId}, laidMet P l W → l[i]? = some (name, d) → P.globalNamed name = some g → (P.globals[g]?).map (·.type) = some t → flatB P 8 t = true →
    W.var? P name = some (flat d).toArray
  | [], i, _, _, _, _, _, hi, _, _, _ => by simp at hi
  | x :: l, i + 1, _, _, _, _, h, hi, hg, ht, hf => laid_at i h.tail (by simpa using hi) hg ht hf
  | (n, e) :: l, 0, name, d, g, t, h, hi, hg, ht, hf => by
    obtain ⟨rfl, rfl⟩ : n = name ∧ e = d := by simpa using hi
    obtain ⟨ps, ⟨g', t', cs, fuel, p, q, hg', ht', hvar, hd, _, _⟩, _⟩ := h
    obtain rfl := Option.some.inj (hg.symm.trans hg')
    obtain rfl := Option.some.inj (ht.symm.trans ht')
    rw [hvar, ← flat_of_trod 8 hf hd]

/-- The first of the named variables' data. -/
theorem gs_cons {H : Type} {enc : TypeId × Value → H} {P : Program} {w : World} {sp : Nat → Bool} {n : String} {ns : List String} {gs : List (DataW H)} {ps : List MemPlace} (h : DataW.TrodVars enc P w sp (n :: ns) gs ps) :
    ∃ d ds q, gs = d :: ds ∧ DataW.TrodVars enc P w sp ns ds q := by
  cases gs with
  | nil => exact h.elim
  | cons d ds =>
    obtain ⟨g, t, cs, fuel, p, q, _, _, _, _, hs, _⟩ := h
    exact ⟨d, ds, q, rfl, hs⟩

theorem var_stays {P : Program} {w w' : World} {n : String} {cs : Array Value} (h : w.var? P n = some cs) (hb : Below w.heap.size w w') : w'.var? P n = some cs := by
  unfold World.var? at h ⊢
  cases hg : P.globalNamed n with
  | none => simp [hg] at h
  | some g =>
    simp only [hg, Option.bind_some] at h ⊢
    have hlt : g < w.heap.size := by
      rcases Nat.lt_or_ge g w.heap.size with h' | h'
      · exact h'
      · simp [Array.getElem?_eq_none h'] at h
    rw [hb.block g hlt]
    exact h

/-- A law's last step where its row names variables of the program's own: it returned true, and nothing that was there has turned. -/
theorem law_post_vars {H : Type} {enc : TypeId × Value → H} {P : Program} (hl : laidOutB P = true) {f : Func} {s : ChangeSpec} {W W' : World} {args : Array Value} {ds gs : List (DataW H)} {before : List MemPlace} {bt : TypeId}
    (hvars : varsRowed P s.vars = true) (hp : (f.params.toList.all fun t => P.readableRec t && decide (t < P.types.size)) = true) (hres : f.resultTypes = #[bt]) (hbt : P.underlying bt = some .bool)
    (hW : DataW.Whole enc P f.params.toList s.vars false W args.toList ds gs before) (hfn : s.fn H (ds ++ gs) = { results := [.lit (.bool true)], args := ds, vars := gs }) (hb : Below W.heap.size W W') :
    s.post enc P f false true false false W args (.bool true) W' := by
  have hW' := hW
  obtain ⟨p, q, hA, hV, rfl, _, _⟩ := hW
  have hlt : ∀ x ∈ p, x.block < W.heap.size := fun x hx => hW'.lt x (by simp [hx])
  refine ⟨ds, gs, p ++ q, [], p, q, hW', ?_, ?_, ?_, hb.frame _, fun h => by cases h⟩
  · rw [hfn, hres]
    exact trodAll_mk1 (shut_bool hbt true)
  · rw [hfn]
    exact trodAll_stay hl hb hp hlt hA
  · rw [hfn]
    exact Below.trodVars hl hb hvars hV
end Go.Proofs.YtpmmjaceehlpiaaGreatDoor
/-
  Statements: what chapter 4's functions come to; the law's own helpers over a statement. A statement is a struct of a kind and two names.
-/
namespace Go.Proofs.YtpmmjaceehlpiaaGreatDoor
open Go Go.RowKit

abbrev stV (k : Int) (a b : ByteArray) : Value := .agg #[.int .i64 k, .string a, .string b]
def isTestS (k : Int) : Bool := decide (9 ≤ k) && decide (k ≤ 12)
def oppS (k : Int) : Int := if k = 9 then 10 else if k = 10 then 9 else if k = 11 then 12 else 11
theorem isTestS_true {k : Int} : isTestS k = true ↔ 9 ≤ k ∧ k ≤ 12 := by simp [isTestS]
theorem isTestS_four {k : Int} (h : isTestS k = true) : k = 9 ∨ k = 10 ∨ k = 11 ∨ k = 12 := by rw [isTestS_true] at h; omega

/-- It returned x; what was there is as it was. -/
def GaveB (x : Value) (w : World) (e : Ending) (w' : World) : Prop := e = .returned x ∧ Below w.heap.size w w'

set_option maxHeartbeats 400000 in
theorem lawToStmt (k : Int) (a b : ByteArray) (w : World) : Calls Tryz.prog 140 #[stV k a b] w (GaveB (stV k a b) w) := by
  go_enter Tryz.func140, Tryz.ntmps140
  go_wp2
  refine bodyPost_ret (v := stV k a b) (by simp [results, Tryz.results140, go_sem]) rfl ⟨rfl, ?_⟩
  repeat (first | exact Below.refl _ _ | refine Below.alloc ?_ (by simp <;> omega) _ | refine Below.setCell ?_ (by simp <;> omega) _)

/-- The size guard: an int; where it is not negative, the names fit into the allowance. -/
def SzStmtEnd (a b : ByteArray) (left : Nat) (w : World) (e : Ending) (w' : World) : Prop :=
  ∃ r : Int, e = .returned (.int .i64 r) ∧ Below w.heap.size w w' ∧ r ≤ left ∧ (0 ≤ r → (a.size : Int) + b.size + r = left)
set_option maxHeartbeats 400000 in
theorem szStmt (k : Int) (a b : ByteArray) (left : Nat) (w : World) (hl : left ≤ 1099511627776) (ha : a.size ≤ maxLen) (hb : b.size ≤ maxLen) : Calls Tryz.prog 139 #[stV k a b, .int .i64 left] w (SzStmtEnd a b left w) := by
  unfold maxLen at ha hb
  by_cases h0 : (left : Int) - a.size < 0
  · go_enter Tryz.func139, Tryz.ntmps139
    go_wp2
    go_ret
    exact ⟨-1, rfl, (Below.refl _ _).alloc (Nat.le_refl _) _, by omega, fun h => by omega⟩
  · by_cases h1 : (left : Int) - a.size - b.size < 0
    · go_enter Tryz.func139, Tryz.ntmps139
      go_wp2
      go_ret
      exact ⟨-1, rfl, (Below.refl _ _).alloc (Nat.le_refl _) _, by omega, fun h => by omega⟩
    · go_enter Tryz.func139, Tryz.ntmps139
      go_wp2
      go_ret
      exact ⟨(left : Int) - a.size - b.size, rfl, (Below.refl _ _).alloc (Nat.le_refl _) _, by omega, fun h => by omega⟩

theorem str_eq_self (s : ByteArray) : (s.toList == s.toList) = true := by simp
set_option maxHeartbeats 400000 in
theorem eqStmtSame (k : Int) (a b : ByteArray) (w : World) : Calls Tryz.prog 141 #[stV k a b, stV k a b] w (GaveB (.bool true) w) := by
  go_enter Tryz.func141, Tryz.ntmps141
  go_wp2
  go_ret
  refine ⟨rfl, ?_⟩
  repeat (first | exact Below.refl _ _ | refine Below.alloc ?_ (by simp <;> omega) _ | refine Below.setCell ?_ (by simp <;> omega) _)

theorem specIn3 (a x y : Int) (w : World) : Calls Tryz.prog 58 #[.int .i64 a, .int .i64 x, .int .i64 y] w fun e w' => e = .returned (.bool (decide (x ≤ a) && decide (a ≤ y))) ∧ w = w' := by
  by_cases h0 : x ≤ a <;> by_cases h1 : a ≤ y
  all_goals
    go_enter Tryz.func58, Tryz.ntmps58
    go_wp2
    go_ret
    exact ⟨by simp [h0, h1], rfl⟩

theorem specIsTest (k : Int) (a b : ByteArray) (w : World) : Calls Tryz.prog 105 #[stV k a b] w (GaveB (.bool (isTestS k)) w) := by
  go_enter Tryz.func105, Tryz.ntmps105
  go_wp2_with fail
  refine (specIn3 k 9 12 _).mono ?_
  rintro e w1 ⟨rfl, rfl⟩
  go_wp2
  go_ret
  exact ⟨rfl, (Below.refl _ _).alloc (Nat.le_refl _) _⟩

def noneS : Value := .tuple #[stV 0 ⟨#[]⟩ ⟨#[]⟩, .bool false]
theorem bcell {W w1 : World} (hb : Below W.heap.size W w1) : (∀ b o, b < W.heap.size → w1.cell? ⟨b, o, none⟩ = W.cell? ⟨b, o, none⟩) ∧ (∀ b o, b < W.heap.size → w1.frozen? ⟨b, o, none⟩ = W.frozen? ⟨b, o, none⟩) :=
  ⟨fun b o h => hb.cell (p := ⟨b, o, none⟩) h, fun b o h => hb.frozen (p := ⟨b, o, none⟩) h⟩

end Go.Proofs.YtpmmjaceehlpiaaGreatDoor
/-
  Boxes of any number of cells that may be written, in the words of intervals.
-/
namespace Go.Proofs.YtpmmjaceehlpiaaGreatDoor
open Go Go.RowKit

/-- A box of some cells that may be written. -/
structure BoxL (W : World) (g : Nat) (xs : List Value) : Prop where
  c : ∀ i x, xs[i]? = some x → W.cell? ⟨g, i, none⟩ = some x
  f : ∀ o, W.frozen? ⟨g, o, none⟩ = false
  lt : g < W.heap.size
section
variable {W W' : World} {g lo hi : Nat} {xs : List Value}
theorem BoxL.new (w : World) (xs : List Value) (t : TypeId) : BoxL (w.alloc (.cells xs.toArray t)) w.heap.size xs :=
  ⟨fun i x hx => by rw [World.cell?_alloc_at _ _ _ _ rfl]; simpa using hx, fun o => by simp [go_sem], by simp⟩
theorem two_boxL (w : World) (xs ys : List Value) (t t' : TypeId) : ∃ W0, (w.alloc (.cells xs.toArray t)).alloc (.cells ys.toArray t') = W0 ∧ Below w.heap.size w W0 ∧ BoxL W0 w.heap.size xs ∧ BoxL W0 (w.heap.size + 1) ys := by
  have h1 := BoxL.new w xs t
  have h2 := BoxL.new (w.alloc (.cells xs.toArray t)) ys t'
  have hs : (w.alloc (.cells xs.toArray t)).heap.size = w.heap.size + 1 := by simp
  have hb := (Below.refl (w.alloc (.cells xs.toArray t)).heap.size (w.alloc (.cells xs.toArray t))).alloc (Nat.le_refl _) (.cells ys.toArray t')
  rw [hs] at h2
  refine ⟨_, rfl, ((Below.refl _ _).alloc (Nat.le_refl _) _).alloc (by simp) _, ⟨fun i x hx => (hb.cell (p := ⟨w.heap.size, i, none⟩) (by rw [hs]; exact Nat.lt_succ_self _)).trans (h1.c i x hx), fun o => (hb.frozen (p := ⟨w.heap.size, o, none⟩) (by rw [hs]; exact Nat.lt_succ_self _)).trans (h1.f o), by simp; omega⟩, h2⟩
theorem BoxL.turn (h : BoxL W g xs) (t : Turn lo hi W W') (hd : g < lo ∨ hi ≤ g) : BoxL W' g xs :=
  ⟨fun i x hx => (World.cell?_of_block (t.block g h.lt hd)).trans (h.c i x hx), fun o => (World.frozen?_of_block (t.block g h.lt hd)).trans (h.f o), Nat.lt_of_lt_of_le h.lt t.size⟩
theorem BoxL.below (h : BoxL W g xs) (hb : Below W.heap.size W W') : BoxL W' g xs := h.turn (lo := g + 1) (hi := g + 1) (Turn.of_below hb) (.inl (Nat.lt_succ_self g))
theorem turn_set (W : World) (b i : Nat) (u : Value) : Turn b (b + 1) W (W.setCell ⟨b, i, none⟩ u) :=
  ⟨rfl, rfl, rfl, by simp, fun k _ hd => Below.heap_setCell _ _ _ _ (by show k ≠ b; omega)⟩
theorem BoxL.set (h : BoxL W g xs) (i : Nat) (u : Value) : BoxL (W.setCell ⟨g, i, none⟩ u) g (xs.set i u) := by
  refine ⟨fun j x hx => ?_, fun o => by simp [go_sem, h.f o], by simpa using h.lt⟩
  by_cases hij : i = j
  · subst hij
    have hl : i < xs.length := by
      have := (List.getElem?_eq_some_iff.1 hx).1
      simpa using this
    rw [List.getElem?_set_self hl] at hx
    obtain rfl := Option.some.inj hx
    exact World.cell?_setCell_same _ _ _ (h.c i _ (List.getElem?_eq_getElem hl))
  · rw [List.getElem?_set_ne hij] at hx
    exact (World.cell?_setCell_other _ _ _ _ (fun e => hij (by have := congrArg Addr.off e; simp at this; omega))).trans (h.c j x hx)
end
end Go.Proofs.YtpmmjaceehlpiaaGreatDoor
/-
  The draws of the laws: a cursor over the law's bytes. Of what is drawn only the range is told; the cursor is the one thing that turns.
  What the draws of all laws share: lists beside the cursor, the guard of a law's bytes, a []byte argument opened.
  A drawn flag.
  One of a list of strings, drawn.
  One of a list of ints, drawn.
-/
namespace Go.Proofs.YtpmmjaceehlpiaaGreatDoor
open Go Go.RowKit

/-- The bytes from an address on: each is a byte. -/
def Code8 (w : World) (B n : Nat) (a : Option Addr) : Prop := ∀ k, k < n → ∃ b o, ∃ c : Nat, a = some ⟨b, o, none⟩ ∧ b < B ∧ c ≤ 255 ∧ w.cell? ⟨b, o + k, none⟩ = some (.int .u8 (c : Int))
theorem Code8.keeps {w w' : World} {B n : Nat} {a : Option Addr} (h : Code8 w B n a) (hk : ∀ p : Addr, p.block < B → w'.cell? p = w.cell? p) : Code8 w' B n a := by
  intro k hkn
  obtain ⟨b, o, c, e, hb, h1, hc⟩ := h k hkn
  exact ⟨b, o, c, e, hb, h1, (hk _ hb).trans hc⟩
theorem Code8.grow {w : World} {B B' n : Nat} {a : Option Addr} (h : Code8 w B n a) (hB : B ≤ B') : Code8 w B' n a := by
  intro k hkn
  obtain ⟨b, o, c, e, hb, h1, hc⟩ := h k hkn
  exact ⟨b, o, c, e, by omega, h1, hc⟩

/-- A cursor in block g. -/
def Cur (w : World) (g : Nat) : Prop :=
  ∃ (a : Option Addr) (n cap i : Nat) (h : Int), w.heap[g]? = some (.cells #[.slice a n cap, .int .i64 (i : Int), .int .i64 h] 115 (0, 0)) ∧ i ≤ n ∧ n ≤ 1099511627776 ∧ Code8 w g n a
theorem Cur.lt {w : World} {g : Nat} (h : Cur w g) : g < w.heap.size := by
  obtain ⟨_, _, _, _, _, hg, _⟩ := h
  rcases Nat.lt_or_ge g w.heap.size with h1 | h1
  · exact h1
  · rw [Array.getElem?_eq_none h1] at hg; cases hg
theorem Cur.keeps {w w' : World} {g : Nat} (h : Cur w g) (hb : Below w.heap.size w w') : Cur w' g := by
  have hlt := h.lt
  obtain ⟨a, n, cap, i, x, hg, h1, h2, h3⟩ := h
  exact ⟨a, n, cap, i, x, (hb.block g hlt).trans hg, h1, h2, h3.keeps fun p hp => hb.cell (by omega)⟩

theorem and255 (y : Int) : ∃ x : Nat, x ≤ 255 ∧ bits .and .i64 y 255 = (x : Int) := by
  have h : bits .and .i64 y 255 = IntKind.i64.wrap ((BitVec.ofInt 64 y &&& BitVec.ofInt 64 255).toNat : Int) := rfl
  have hle : (BitVec.ofInt 64 y &&& BitVec.ofInt 64 255).toNat ≤ 255 := by
    rw [BitVec.toNat_and]
    exact Nat.and_le_right
  refine ⟨(BitVec.ofInt 64 y &&& BitVec.ofInt 64 255).toNat, hle, ?_⟩
  rw [h, IntKind.wrap_i64]
  omega

theorem cur_step {W : World} {g n cap i : Nat} {a : Option Addr} {v : Int} (hg : W.heap[g]? = some (.cells #[.slice a n cap, .int .i64 (i : Int), .int .i64 v] 115 (0, 0))) (hi : i < n) (hn : n ≤ 1099511627776) (hcode : Code8 W g n a) :
    Cur (W.setCell ⟨g, 1, none⟩ (.int .i64 ((i : Int) + 1))) g := by
  have h1 := heap_setCell_same W g 1 _ _ (.int .i64 ((i : Int) + 1)) hg
  refine ⟨a, n, cap, i + 1, v, ?_, hi, hn, hcode.keeps fun p hp => World.cell?_setCell_other _ _ _ _ (fun e => by subst e; exact Nat.lt_irrefl _ hp)⟩
  simpa using h1
theorem only_set {w W : World} {g i : Nat} {u : Value} (h : w.grownBy W (some g)) : w.grownBy (W.setCell ⟨g, i, none⟩ u) (some g) :=
  ⟨h.os, h.tape, h.output, by simpa using h.size, fun k hk hne => (heap_setCell_other W ⟨g, i, none⟩ k _ (fun e => hne (by simp [e]))).trans (h.block k hk hne)⟩
theorem only_draws {w W : World} {r : Option Nat} (h : w.grownBy W r) (n : Nat) : w.grownBy (W.drewN n) r := ⟨h.os, h.tape, h.output, h.size, h.block⟩

/-- What a draw does to the world: block g alone may have turned. -/
def ByteEnd (g : Nat) (w : World) (e : Ending) (w' : World) : Prop := ∃ x : Nat, x ≤ 255 ∧ e = .returned (.int .i64 (x : Int)) ∧ Cur w' g ∧ w.grownBy w' (some g)

set_option maxRecDepth 100000 in
set_option maxHeartbeats 800000 in
theorem drawByte (g : Nat) (w : World) (hcur : Cur w g) : Calls Tryz.prog 88 #[.pointer (some ⟨g, 0, none⟩)] w (ByteEnd g w) := by
  obtain ⟨a, n, cap, i, h, hg, hin, hn, hcode⟩ := hcur
  have c0 : w.cell? ⟨g, 0, none⟩ = some (.slice a n cap) := cell_of_row w g 0 _ _ (0, 0) hg
  have c1 : w.cell? ⟨g, 1, none⟩ = some (.int .i64 (i : Int)) := cell_of_row w g 1 _ _ (0, 0) hg
  have c2 : w.cell? ⟨g, 2, none⟩ = some (.int .i64 h) := cell_of_row w g 2 _ _ (0, 0) hg
  have f1 : w.frozen? ⟨g, 1, none⟩ = false := frozen_of_row w g 1 _ _ hg
  have f2 : w.frozen? ⟨g, 2, none⟩ = false := frozen_of_row w g 2 _ _ hg
  go_enter Tryz.func88, Tryz.ntmps88
  go_wp2
  generalize wrap64 (wrap64 (h * 6364136223846793005) + 1442695040888963407) = v
  have hg1 : (w.setCell ⟨g, 2, none⟩ (.int .i64 v)).heap[g]? = some (.cells #[.slice a n cap, .int .i64 (i : Int), .int .i64 v] 115 (0, 0)) := by
    have h1 := heap_setCell_same w g 2 _ _ (.int .i64 v) hg
    simpa using h1
  have hw1 : w.grownBy (w.setCell ⟨g, 2, none⟩ (.int .i64 v)) (some g) :=
    ⟨rfl, rfl, rfl, by simp, fun k _ hk => heap_setCell_other w ⟨g, 2, none⟩ k _ (fun e => hk (by simp [e]))⟩
  clear c0 c1 c2 f1 f2
  generalize w.setCell ⟨g, 2, none⟩ (.int .i64 v) = w1 at *
  have c0 : w1.cell? ⟨g, 0, none⟩ = some (.slice a n cap) := cell_of_row w1 g 0 _ _ (0, 0) hg1
  have c1 : w1.cell? ⟨g, 1, none⟩ = some (.int .i64 (i : Int)) := cell_of_row w1 g 1 _ _ (0, 0) hg1
  have c2 : w1.cell? ⟨g, 2, none⟩ = some (.int .i64 v) := cell_of_row w1 g 2 _ _ (0, 0) hg1
  have f1 : w1.frozen? ⟨g, 1, none⟩ = false := frozen_of_row w1 g 1 _ _ hg1
  have hcode1 : Code8 w1 g n a := hcode.keeps fun p hp => by
    have hgl : g < w.heap.size := by
      rcases Nat.lt_or_ge g w.heap.size with h1 | h1
      · exact h1
      · rw [Array.getElem?_eq_none h1] at hg; cases hg
    exact World.cell?_of_block (hw1.block p.block (by omega) (fun e => by injection e with e; omega))
  have Hg1 := Lib.hid hg1
  have Hw1 := Lib.hid hw1
  clear hg hg1 hw1 hcode
  go_quiet (fail)
  obtain ⟨x, hx, ex⟩ := and255 (bits BinOp.xor .i64 (v / 8589934592) (v / 35184372088832))
  rw [ex]
  clear ex
  by_cases hlt : i < n
  · obtain ⟨b, o, c, rfl, hbg, hc, hcc⟩ := hcode1 i hlt
    have hlti : (i : Int) < (n : Int) := by omega
    go_wp2
    go_quiet (fail)
    go_wp2
    go_quiet (fail)
    obtain ⟨y, hy, ey⟩ := and255 ((x : Int) + (c : Int))
    rw [ey]
    clear ey
    go_wp2
    go_ret
    exact ⟨y, hy, rfl, cur_step (W := w1.drewN _) Hg1.out hlt hn hcode1, only_set (only_draws Hw1.out _)⟩
  · have hge : ¬ (i : Int) < (n : Int) := by omega
    go_wp2
    go_quiet (fail)
    go_wp2
    go_ret
    exact ⟨x, hx, rfl, ⟨a, n, cap, i, v, Hg1.out, hin, hn, hcode1⟩, only_draws (only_draws Hw1.out _) _⟩

def BelowEnd (g n : Nat) (w : World) (e : Ending) (w' : World) : Prop := ∃ x : Nat, x < n ∧ e = .returned (.int .i64 (x : Int)) ∧ Cur w' g ∧ w.grownBy w' (some g)

theorem only_then {a b c : World} {g : Nat} (h : a.grownBy b (some g)) (k : b.grownBy c (some g)) : a.grownBy c (some g) :=
  ⟨k.os.trans h.os, k.tape.trans h.tape, k.output.trans h.output, Nat.le_trans h.size k.size, fun i hi hne => (k.block i (Nat.lt_of_lt_of_le hi h.size) hne).trans (h.block i hi hne)⟩

set_option maxHeartbeats 400000 in
theorem drawBelow_small (g n : Nat) (w : World) (h0 : 0 < n) (h1 : n ≤ 256) (hcur : Cur w g) : Calls Tryz.prog 46 #[.pointer (some ⟨g, 0, none⟩), .int .i64 (n : Int)] w (BelowEnd g n w) := by
  go_enter Tryz.func46, Tryz.ntmps46
  go_wp2_with fail
  refine (drawByte g _ hcur).mono ?_
  rintro e w1 ⟨x, hx, rfl, hc1, hw1⟩
  go_wp2
  go_ret
  exact ⟨x % n, Nat.mod_lt _ h0, by simp, hc1, hw1⟩

set_option maxHeartbeats 400000 in
theorem drawBelow_great (g n : Nat) (w : World) (h0 : 256 < n) (h1 : n ≤ 1099511627776) (hcur : Cur w g) : Calls Tryz.prog 46 #[.pointer (some ⟨g, 0, none⟩), .int .i64 (n : Int)] w (BelowEnd g n w) := by
  go_enter Tryz.func46, Tryz.ntmps46
  go_wp2_with fail
  refine (drawByte g _ hcur).mono ?_
  rintro e w1 ⟨x, hx, rfl, hc1, hw1⟩
  go_wp2_with fail
  refine (drawByte g _ hc1).mono ?_
  rintro e w2 ⟨y, hy, rfl, hc2, hw2⟩
  go_wp2_with fail
  refine (drawByte g _ hc2).mono ?_
  rintro e w3 ⟨z, hz, rfl, hc3, hw3⟩
  go_wp2_with fail
  refine (drawByte g _ hc3).mono ?_
  rintro e w4 ⟨u, hu, rfl, hc4, hw4⟩
  go_wp2
  go_ret
  exact ⟨(x * 16777216 + y * 65536 + z * 256 + u) % n, Nat.mod_lt _ (by omega), by simp, hc4, only_then (only_then (only_then hw1 hw2) hw3) hw4⟩

theorem drawBelow (g n : Nat) (w : World) (h0 : 0 < n) (h1 : n ≤ 1099511627776) (hcur : Cur w g) : Calls Tryz.prog 46 #[.pointer (some ⟨g, 0, none⟩), .int .i64 (n : Int)] w (BelowEnd g n w) := by
  by_cases h : n ≤ 256
  · exact drawBelow_small g n w h0 h hcur
  · exact drawBelow_great g n w (by omega) h1 hcur

theorem and_mask (y : Int) (m : Nat) (hm : m ≤ 9223372036854775807) : ∃ x : Nat, x ≤ m ∧ bits .and .i64 y (m : Int) = (x : Int) := by
  have h : bits .and .i64 y (m : Int) = IntKind.i64.wrap ((BitVec.ofInt 64 y &&& BitVec.ofInt 64 (m : Int)).toNat : Int) := rfl
  have hle : (BitVec.ofInt 64 y &&& BitVec.ofInt 64 (m : Int)).toNat ≤ m := by
    rw [BitVec.toNat_and]
    have h2 : (BitVec.ofInt 64 (m : Int)).toNat = m := by
      rw [BitVec.ofInt_natCast, BitVec.toNat_ofNat]
      exact Nat.mod_eq_of_lt (by omega)
    rw [h2]
    exact Nat.and_le_right
  refine ⟨(BitVec.ofInt 64 y &&& BitVec.ofInt 64 (m : Int)).toNat, hle, ?_⟩
  rw [h, IntKind.wrap_i64]
  omega

/-- A new cursor. -/
def NewEnd (w : World) (e : Ending) (w' : World) : Prop := ∃ g, e = .returned (.pointer (some ⟨g, 0, none⟩)) ∧ w.heap.size ≤ g ∧ Cur w' g ∧ Below w.heap.size w w'

theorem new_end {w : World} {a : Option Addr} {n cap : Nat} {x : Int} (hn : n ≤ 1099511627776) (hcode : Code8 w w.heap.size n a) :
    NewEnd w (.returned (.pointer (some ⟨w.heap.size, 0, none⟩))) (w.alloc (.cells #[.slice a n cap, .int .i64 0, .int .i64 x] 115)) :=
  ⟨w.heap.size, rfl, Nat.le_refl _, ⟨a, n, cap, 0, x, heap_alloc_new w _, Nat.zero_le _, hn, hcode.keeps fun _ hp => ((Below.refl w.heap.size w).alloc (Nat.le_refl _) _).cell hp⟩, (Below.refl _ _).alloc (Nat.le_refl _) _⟩

set_option maxRecDepth 100000 in
set_option maxHeartbeats 800000 in
theorem drawNew (a : Option Addr) (n cap : Nat) (w : World) (hn : n ≤ 1099511627776) (hcode : Code8 w w.heap.size n a) : Calls Tryz.prog 43 #[.slice a n cap] w (NewEnd w) := by
  go_enter Tryz.func43, Tryz.ntmps43
  go_wp2
  go_loop [3, 4] (fun h i => ∃ (k : Nat) (x : Int), k ≤ n ∧ i = .int .i64 (k : Int) ∧ h = .int .i64 x ∧ 0 ≤ x ∧ x ≤ 2199023255552) (fun _ i => n - (intOf i).toNat)
  case atStart => exact ⟨0, _, Nat.zero_le _, rfl, rfl, by omega, by omega⟩
  case round =>
    obtain ⟨k, x, hk, rfl, rfl, hx0, hx1⟩ := hrel
    by_cases hlt : k < n
    · obtain ⟨b, o, c, rfl, hbg, hc, hcc⟩ := hcode k hlt
      by_cases hlim : (k : Int) < 4000
      · obtain ⟨y, hy, ey⟩ := and_mask (x * 131 + (c : Int) + 7) 1073741823 (by omega)
        have ey' : bits .and .i64 (x * 131 + (c : Int) + 7) 1073741823 = (y : Int) := ey
        have Hey := Lib.hid ey'
        clear ey ey'
        go_wp2
        go_round
        case rel => exact ⟨k + 1, (y : Int), by omega, by go_num, by rw [Hey.out], by omega, by omega⟩
        case measure => simp [intOf]; omega
      · go_wp2
        go_ret
        exact new_end hn hcode
    · go_wp2
      go_ret
      exact new_end hn hcode
end Go.Proofs.YtpmmjaceehlpiaaGreatDoor

namespace Go.Proofs.YtpmmjaceehlpiaaGreatDoor
open Go Go.RowKit

theorem only_alloc {w W : World} {r : Option Nat} (h : w.grownBy W r) (o : Obj) : w.grownBy (W.alloc o) r :=
  ⟨h.os, h.tape, h.output, Nat.le_trans h.size (by simp), fun k hk hne => (Below.heap_alloc W o k (Nat.lt_of_lt_of_le hk h.size)).trans (h.block k hk hne)⟩
theorem only_below {w W W' : World} {r : Option Nat} (h : w.grownBy W r) (hb : Below W.heap.size W W') : w.grownBy W' r :=
  ⟨hb.os.trans h.os, hb.tape.trans h.tape, hb.output.trans h.output, Nat.le_trans h.size hb.size, fun k hk hne => (hb.block k (Nat.lt_of_lt_of_le hk h.size)).trans (h.block k hk hne)⟩
theorem only_same (w : World) (r : Option Nat) : w.grownBy w r := ⟨rfl, rfl, rfl, Nat.le_refl _, fun _ _ _ => rfl⟩
theorem below_only {B g : Nat} {a w W : World} (h : Below B a w) (hg : w.grownBy W (some g)) (hB : B ≤ w.heap.size) (hBg : B ≤ g) : Below B a W :=
  h.grown hg hB fun k hk => by cases hk; exact hBg
theorem Cur.alloc {w : World} {g : Nat} (h : Cur w g) (o : Obj) : Cur (w.alloc o) g := h.keeps ((Below.refl _ _).alloc (Nat.le_refl _) _)

/-- A list beside the cursor. -/
def Beside (w : World) (g : Nat) (a : Option Addr) (xs : List Value) : Prop := ∀ k x, xs[k]? = some x → ∃ b o, a = some ⟨b, o, none⟩ ∧ b ≠ g ∧ b < w.heap.size ∧ w.cell? ⟨b, o + k, none⟩ = some x
theorem beside_new {w : World} {g : Nat} {t : TypeId} (cs : Array Value) (hg : g < w.heap.size) : Beside (w.alloc (.cells cs t)) g (some ⟨w.heap.size, 0, none⟩) cs.toList := by
  intro k x hx
  refine ⟨w.heap.size, 0, rfl, by omega, by simp, ?_⟩
  rw [World.cell?_alloc_at _ _ _ _ rfl, Nat.zero_add]
  simpa using hx

def PickEnd (g : Nat) (xs : List Value) (w : World) (e : Ending) (w' : World) : Prop := ∃ x ∈ xs, e = .returned x ∧ Cur w' g ∧ w.grownBy w' (some g)
theorem bigNo (a : Option Addr) (n cap : Nat) (w : World) (h : n ≤ 1048576) : Calls Tryz.prog 6 #[.slice a n cap] w fun e w' => e = .returned (.bool false) ∧ w = w' := by
  have hd : decide ((1048576 : Int) < (n : Int)) = false := by simp; omega
  go_enter Tryz.func6, Tryz.ntmps6
  go_wp2
  go_ret
  exact ⟨rfl, rfl⟩
theorem bigYes (a : Option Addr) (n cap : Nat) (w : World) (hm : n ≤ maxLen) (h : 1048576 < n) : Calls Tryz.prog 6 #[.slice a n cap] w fun e w' => e = .returned (.bool true) ∧ w = w' := by
  unfold maxLen at hm
  have hd : decide ((1048576 : Int) < (n : Int)) = true := by simp; omega
  go_enter Tryz.func6, Tryz.ntmps6
  go_wp2
  go_ret
  exact ⟨rfl, rfl⟩

open Go.ChangeShapes Go.WideShapes Go.ChangeAt in
/-- A []byte argument, opened. -/
theorem open_codes {H : Type} {enc : TypeId × Value → H} {P : Program} {W : World} {t e : TypeId} {v : Value} {d : DataW H} {ps : List MemPlace} {base : Nat}
    (ht : P.underlying t = some (.slice e)) (he : P.underlying e = some (.int .u8)) (hc : P.cellsOf e = 1) (hlt : ∀ x ∈ ps, x.block < W.heap.size)
    (hval : Value.okWide P W .any base t v) (h : DataW.Trod enc P W 0 (fun _ => true) true t v d ps) :
    ∃ (a : Option Addr) (n cap : Nat), v = .slice a n cap ∧ n ≤ cap ∧ n ≤ maxLen ∧ Code8 W W.heap.size n a := by
  obtain ⟨a0, len, cap, rfl⟩ := okWide_slice ht hval
  obtain ⟨fuel, hf⟩ := h
  rcases open_ints ht he hc hf with ⟨hcs, hx⟩ | ⟨a, len', cap', zs, hcs, _, hl, hm, hz, hx, hcell, hws⟩
  · simp [Value.cells] at hcs
    obtain ⟨rfl, rfl, rfl⟩ := hcs
    exact ⟨none, 0, 0, rfl, Nat.le_refl _, Nat.zero_le _, fun k hk => by omega⟩
  · simp [Value.cells] at hcs
    obtain ⟨rfl, rfl, rfl⟩ := hcs
    simp only [Prod.mk.injEq] at hx
    obtain ⟨rfl, rfl⟩ := hx
    simp only [if_true] at hz
    refine ⟨some a, len, cap, rfl, hl, by omega, fun k hk => ?_⟩
    have hkz : k < zs.length := by omega
    obtain ⟨b, off, spot⟩ := a
    have hspot : spot = none := by simpa [Addr.add] using World.cell?_spot (hcell 0 (by omega))
    subst hspot
    have hwf := u8_bounds (hws (zs.getD k 0) (by simp [List.getD, hkz]))
    refine ⟨b, off, (zs.getD k 0).toNat, rfl, hlt (.cell b (off + 0)) (MemPlace.mem_row.2 ⟨0, by omega, by simp⟩), by omega, ?_⟩
    rw [← add_plain, hcell k (by omega)]
    rw [Int.toNat_of_nonneg hwf.1]
end Go.Proofs.YtpmmjaceehlpiaaGreatDoor

namespace Go.Proofs.YtpmmjaceehlpiaaGreatDoor
open Go Go.RowKit

def FlagEnd (g : Nat) (w : World) (e : Ending) (w' : World) : Prop := ∃ b : Bool, e = .returned (.bool b) ∧ Cur w' g ∧ w.grownBy w' (some g)
theorem drawOnce (g n : Nat) (w : World) (h0 : 0 < n) (h1 : n ≤ 1099511627776) (hcur : Cur w g) : Calls Tryz.prog 48 #[.pointer (some ⟨g, 0, none⟩), .int .i64 (n : Int)] w (FlagEnd g w) := by
  go_enter Tryz.func48, Tryz.ntmps48
  go_wp2_with fail
  refine (drawBelow g n _ h0 h1 hcur).mono ?_
  rintro e w1 ⟨x, hx, rfl, hc1, hw1⟩
  go_wp2
  go_ret
  exact ⟨_, rfl, hc1, hw1⟩

end Go.Proofs.YtpmmjaceehlpiaaGreatDoor

namespace Go.Proofs.YtpmmjaceehlpiaaGreatDoor
open Go Go.RowKit

theorem drawPick (g cap : Nat) (a : Option Addr) (ss : List ByteArray) (w : World) (h0 : 0 < ss.length) (h1 : ss.length ≤ 1099511627776) (hcur : Cur w g) (hl : Beside w g a (strVals ss)) :
    Calls Tryz.prog 123 #[.pointer (some ⟨g, 0, none⟩), .slice a ss.length cap] w (PickEnd g (strVals ss) w) := by
  go_enter Tryz.func123, Tryz.ntmps123
  go_wp2_with fail
  refine (drawBelow g ss.length _ h0 h1 hcur).mono ?_
  rintro e w1 ⟨x, hx, rfl, hc1, hw1⟩
  obtain ⟨b, o, rfl, hbg, hbw, hc⟩ := hl x (.string ss[x]) (by simp [strVals, hx])
  have hc2 : w1.cell? ⟨b, o + x, none⟩ = some (.string ss[x]) := hw1.cell hc (by simpa using hbg)
  clear hc
  go_wp2
  go_ret
  exact ⟨.string ss[x], by simp [strVals], rfl, hc1, hw1⟩
end Go.Proofs.YtpmmjaceehlpiaaGreatDoor

namespace Go.Proofs.YtpmmjaceehlpiaaGreatDoor
open Go Go.RowKit

theorem drawPickInt (g cap : Nat) (a : Option Addr) (ns : List Int) (w : World) (h0 : 0 < ns.length) (h1 : ns.length ≤ 1099511627776) (hcur : Cur w g) (hl : Beside w g a (intVals ns)) :
    Calls Tryz.prog 66 #[.pointer (some ⟨g, 0, none⟩), .slice a ns.length cap] w (PickEnd g (intVals ns) w) := by
  go_enter Tryz.func66, Tryz.ntmps66
  go_wp2_with fail
  refine (drawBelow g ns.length _ h0 h1 hcur).mono ?_
  rintro e w1 ⟨x, hx, rfl, hc1, hw1⟩
  obtain ⟨b, o, rfl, hbg, hbw, hc⟩ := hl x (.int .i64 ns[x]) (by simp [intVals, hx])
  have hc2 : w1.cell? ⟨b, o + x, none⟩ = some (.int .i64 ns[x]) := hw1.cell hc (by simpa using hbg)
  clear hc
  go_wp2
  go_ret
  exact ⟨.int .i64 ns[x], by simp [intVals], rfl, hc1, hw1⟩

end Go.Proofs.YtpmmjaceehlpiaaGreatDoor
/-
  How many names a kind of statement uses: the table of the program, the walks of the program's function and of the model's.
-/
namespace Go.Proofs.YtpmmjaceehlpiaaGreatDoor
open Go Go.RowKit

def namesN (k : Int) : Int := if k = 1 then 0 else if k = 2 ∨ k = 3 ∨ k = 6 ∨ k = 8 ∨ k = 9 ∨ k = 10 then 1 else if k = 4 ∨ k = 5 ∨ k = 7 ∨ k = 11 ∨ k = 12 then 2 else -1
theorem kinds {k : Int} (h : 1 ≤ k ∧ k ≤ 12) : k = 1 ∨ k = 2 ∨ k = 3 ∨ k = 4 ∨ k = 5 ∨ k = 6 ∨ k = 7 ∨ k = 8 ∨ k = 9 ∨ k = 10 ∨ k = 11 ∨ k = 12 := by omega
theorem namesN_none {k : Int} (h : ¬ (1 ≤ k ∧ k ≤ 12)) : namesN k = -1 := by
  unfold namesN
  rw [if_neg (by omega), if_neg (by omega), if_neg (by omega)]
theorem namesN_four (k : Int) : namesN k = -1 ∨ namesN k = 0 ∨ namesN k = 1 ∨ namesN k = 2 := by
  unfold namesN
  split
  · exact .inr (.inl rfl)
  · split
    · exact .inr (.inr (.inl rfl))
    · split
      · exact .inr (.inr (.inr rfl))
      · exact .inl rfl

def HasNamesTable (w : World) : Prop := w.var? Tryz.prog "loop.example/g00590/impl.namesTable" = some #[Value.int .i64 0, .int .i64 0, .int .i64 1, .int .i64 1, .int .i64 2, .int .i64 2, .int .i64 1, .int .i64 2, .int .i64 1, .int .i64 1, .int .i64 1, .int .i64 2, .int .i64 2]
theorem HasNamesTable.keeps {w w' : World} (h : HasNamesTable w) (hb : Below w.heap.size w w') : HasNamesTable w' := var_stays h hb
theorem gNamesTable : Tryz.prog.globalNamed "loop.example/g00590/impl.namesTable" = some 0 := by kernel_rfl
theorem namesTable_of {W : World} (i : Nat) {l : List (String × DataW Unit)} (h : laidMet Tryz.prog l W) (hi : l[i]? = some ("loop.example/g00590/impl.namesTable", Rows.laid_loop_example_g00590_impl_namesTable)) : HasNamesTable W :=
  (laid_at (t := 169) i h hi gNamesTable (by kernel_rfl) (by kernel_rfl)).trans (congrArg some (show (flat Rows.laid_loop_example_g00590_impl_namesTable).toArray = _ by kernel_rfl))
theorem HasNamesTable.cell {w : World} (h : HasNamesTable w) (i : Nat) : w.cell? ⟨0, i, none⟩ = (#[Value.int .i64 0, .int .i64 0, .int .i64 1, .int .i64 1, .int .i64 2, .int .i64 2, .int .i64 1, .int .i64 2, .int .i64 1, .int .i64 1, .int .i64 1, .int .i64 2, .int .i64 2])[i]? := World.var?_cell gNamesTable h i

/-- It returned x, and nothing has turned. -/
def GaveW (x : Value) (w : World) (e : Ending) (w' : World) : Prop := e = .returned x ∧ w = w'

set_option maxHeartbeats 800000 in
theorem implNamesOf (k : Int) (w : World) (hT : HasNamesTable w) : Calls Tryz.prog 127 #[.int .i64 k] w (GaveW (.int .i64 (namesN k)) w) := by
  by_cases h : 1 ≤ k ∧ k ≤ 12
  · have c1 : w.cell? ⟨0, 1, none⟩ = some (.int .i64 0) := hT.cell 1
    have c2 : w.cell? ⟨0, 2, none⟩ = some (.int .i64 1) := hT.cell 2
    have c3 : w.cell? ⟨0, 3, none⟩ = some (.int .i64 1) := hT.cell 3
    have c4 : w.cell? ⟨0, 4, none⟩ = some (.int .i64 2) := hT.cell 4
    have c5 : w.cell? ⟨0, 5, none⟩ = some (.int .i64 2) := hT.cell 5
    have c6 : w.cell? ⟨0, 6, none⟩ = some (.int .i64 1) := hT.cell 6
    have c7 : w.cell? ⟨0, 7, none⟩ = some (.int .i64 2) := hT.cell 7
    have c8 : w.cell? ⟨0, 8, none⟩ = some (.int .i64 1) := hT.cell 8
    have c9 : w.cell? ⟨0, 9, none⟩ = some (.int .i64 1) := hT.cell 9
    have c10 : w.cell? ⟨0, 10, none⟩ = some (.int .i64 1) := hT.cell 10
    have c11 : w.cell? ⟨0, 11, none⟩ = some (.int .i64 2) := hT.cell 11
    have c12 : w.cell? ⟨0, 12, none⟩ = some (.int .i64 2) := hT.cell 12
    rcases kinds h with rfl | rfl | rfl | rfl | rfl | rfl | rfl | rfl | rfl | rfl | rfl | rfl
    all_goals
      clear h hT
      go_enter Tryz.func127, Tryz.ntmps127
      go_wp2
      go_ret
      exact ⟨rfl, rfl⟩
  · rw [namesN_none h]
    by_cases h1 : k < 1
    · go_enter Tryz.func127, Tryz.ntmps127
      go_wp2
      go_ret
      exact ⟨rfl, rfl⟩
    · have h2 : 12 < k := by omega
      go_enter Tryz.func127, Tryz.ntmps127
      go_wp2
      go_ret
      exact ⟨rfl, rfl⟩

set_option maxHeartbeats 800000 in
theorem specNamesOf (k : Int) (w : World) : Calls Tryz.prog 122 #[.int .i64 k] w (GaveW (.int .i64 (namesN k)) w) := by
  by_cases h : 1 ≤ k ∧ k ≤ 12
  · rcases kinds h with rfl | rfl | rfl | rfl | rfl | rfl | rfl | rfl | rfl | rfl | rfl | rfl
    all_goals
      clear h
      go_enter Tryz.func122, Tryz.ntmps122
      go_wp2
      go_ret
      exact ⟨rfl, rfl⟩
  · rw [namesN_none h]
    have h1 : (k == 1) = false := by simp only [beq_eq_false_iff_ne, ne_eq]; omega
    have h2 : (k == 2) = false := by simp only [beq_eq_false_iff_ne, ne_eq]; omega
    have h3 : (k == 3) = false := by simp only [beq_eq_false_iff_ne, ne_eq]; omega
    have h4 : (k == 4) = false := by simp only [beq_eq_false_iff_ne, ne_eq]; omega
    have h5 : (k == 5) = false := by simp only [beq_eq_false_iff_ne, ne_eq]; omega
    have h6 : (k == 6) = false := by simp only [beq_eq_false_iff_ne, ne_eq]; omega
    have h7 : (k == 7) = false := by simp only [beq_eq_false_iff_ne, ne_eq]; omega
    have h8 : (k == 8) = false := by simp only [beq_eq_false_iff_ne, ne_eq]; omega
    have h9 : (k == 9) = false := by simp only [beq_eq_false_iff_ne, ne_eq]; omega
    have h10 : (k == 10) = false := by simp only [beq_eq_false_iff_ne, ne_eq]; omega
    have h11 : (k == 11) = false := by simp only [beq_eq_false_iff_ne, ne_eq]; omega
    have h12 : (k == 12) = false := by simp only [beq_eq_false_iff_ne, ne_eq]; omega
    clear h
    go_enter Tryz.func122, Tryz.ntmps122
    go_wp2
    go_ret
    exact ⟨rfl, rfl⟩
end Go.Proofs.YtpmmjaceehlpiaaGreatDoor
/-
  The draws of chapter 2: a name, a list of names, a list of numbers: of what is drawn only the range is told.
-/
namespace Go.Proofs.YtpmmjaceehlpiaaGreatDoor
open Go Go.RowKit

theorem Cur.upto {w w' : World} {g : Nat} (h : Cur w g) (hb : Below (g + 1) w w') : Cur w' g := by
  obtain ⟨a, n, cap, i, x, hg, h1, h2, h3⟩ := h
  exact ⟨a, n, cap, i, x, (hb.block g (by omega)).trans hg, h1, h2, h3.keeps fun p hp => hb.cell (by omega)⟩
theorem Cur.own {w w' : World} {g : Nat} {e n : Nat} {v : Value} {xs : List Value} (h : Cur w g) (hown : w.ownsRow (g + 1) e 1 v n xs) (hg : w.grownBy w' v.ownBlock) : Cur w' g :=
  h.upto ((Below.refl _ _).grown hg h.lt fun k hk => (hown.lt k hk).1)
theorem own_drawn {w w' : World} {g : Nat} {e n : Nat} {v : Value} {xs : List Value} (hown : w.ownsRow (g + 1) e 1 v n xs) (hg : w.grownBy w' (some g)) : w'.ownsRow (g + 1) e 1 v n xs :=
  own_other hown hg fun k hk e => by
    have := (hown.lt k hk).1
    injection e with e
    omega

def drawnNames : List ByteArray := [⟨#[120]⟩, ⟨#[97, 98]⟩, ⟨#[97, 98, 99]⟩, ⟨#[]⟩, ⟨#[88]⟩, ⟨#[120, 49]⟩, ⟨#[97, 45]⟩]
theorem drawnNames_size : ∀ s ∈ drawnNames, s.size ≤ 21 := by decide
def ShortTextEnd (w : World) (e : Ending) (w' : World) : Prop := ∃ s : ByteArray, s.size ≤ 21 ∧ e = .returned (.string s) ∧ Below w.heap.size w w'
def drawnVars : List ByteArray := [⟨#[120]⟩, ⟨#[121]⟩, ⟨#[116]⟩, ⟨#[112]⟩, ⟨#[113, 113]⟩, ⟨#[88]⟩]
theorem drawnVars_size : ∀ s ∈ drawnVars, s.size ≤ 21 := by decide
/-- A list of short strings, drawn. -/
def DrawnStrs (w : World) (e : Ending) (w' : World) : Prop :=
  ∃ (a : Option Addr) (cap : Nat) (ss : List ByteArray), e = .returned (.slice a ss.length cap) ∧ ss.length ≤ 6 ∧ (∀ s ∈ ss, s.size ≤ 21) ∧ w'.ownsRow w.heap.size 9 1 (.slice a ss.length cap) ss.length (strVals ss) ∧ Below w.heap.size w w'
theorem drawn_end {w w' : World} {base : Nat} {v : Value} {qs : List ByteArray} (hw : w.heap.size ≤ base) (hl : qs.length ≤ 6) (hs : ∀ s ∈ qs, s.size ≤ 21) (h : w'.ownsRow base 9 1 v qs.length (strVals qs)) (hb : Below w.heap.size w w') : DrawnStrs w (.returned v) w' := by
  obtain ⟨a5, c5, hv5⟩ : ∃ a5 c5, v = .slice a5 qs.length c5 := by
    rcases h.2 with ⟨h1, h2⟩ | ⟨g5, c5, _, h1, _⟩
    · exact ⟨none, 0, by rw [h1, h2]⟩
    · exact ⟨_, c5, h1⟩
  subst hv5
  exact ⟨a5, c5, qs, rfl, hl, hs, own_base h hw, hb⟩
theorem all_snoc {α : Type} {P : α → Prop} {l : List α} {x : α} (h : ∀ y ∈ l, P y) (hx : P x) : ∀ y ∈ l ++ [x], P y := by
  intro y hy
  rcases List.mem_append.1 hy with h1 | h1
  · exact h y h1
  · rw [List.mem_singleton.1 h1]
    exact hx
theorem strInfo2 : (Tryz.prog.info? 9).map (fun i => (i.zero, i.size, i.bytes)) = some (some (.string ⟨#[]⟩), 1, 16) := by kernel_rfl
def drawnKeys : List ByteArray := [⟨#[120]⟩, ⟨#[121]⟩, ⟨#[122, 122]⟩]
theorem drawnKeys_size : ∀ s ∈ drawnKeys, s.size ≤ 21 := by decide
def DrawnStrsKey (w : World) (e : Ending) (w' : World) : Prop :=
  ∃ (a : Option Addr) (cap : Nat) (ss : List ByteArray) (s : ByteArray), e = .returned (.tuple #[.slice a ss.length cap, .string s]) ∧ ss.length ≤ 6 ∧ s.size ≤ 21 ∧ (∀ s ∈ ss, s.size ≤ 21) ∧ Row w' w'.heap.size a (strVals ss) ∧ Below w.heap.size w w'
/-- A list of small ints and one, drawn. -/
def DrawnInts (w : World) (e : Ending) (w' : World) : Prop :=
  ∃ (a : Option Addr) (cap : Nat) (ns : List Int) (n : Int), e = .returned (.tuple #[.slice a ns.length cap, .int .i64 n]) ∧ ns.length ≤ 6 ∧ Row w' w'.heap.size a (intVals ns) ∧ Below w.heap.size w w'
theorem drawnInts_end {w w' : World} {base e : Nat} {v : Value} {qs : List Int} {n : Int} (hl : qs.length ≤ 6) (h : w'.ownsRow base e 1 v qs.length (intVals qs)) (hb : Below w.heap.size w w') : DrawnInts w (.returned (.tuple #[v, .int .i64 n])) w' := by
  obtain ⟨a5, c5, hv5⟩ : ∃ a5 c5, v = .slice a5 qs.length c5 := by
    rcases h.2 with ⟨h1, h2⟩ | ⟨g5, c5, _, h1, _⟩
    · exact ⟨none, 0, by rw [h1, h2]⟩
    · exact ⟨_, c5, h1⟩
  subst hv5
  exact ⟨a5, c5, qs, n, rfl, hl, Row.owned h, hb⟩
theorem intInfo2 : (Tryz.prog.info? 3).map (fun i => (i.zero, i.size, i.bytes)) = some (some (.int .i64 0), 1, 8) := by kernel_rfl
end Go.Proofs.YtpmmjaceehlpiaaGreatDoor
/-
  What the walks of draws share: boxes of any number of cells, the cursor beside what is made since, in the words of intervals.
-/
namespace Go.Proofs.YtpmmjaceehlpiaaGreatDoor
open Go Go.RowKit

theorem turn_drawn {W W' : World} {g : Nat} (h : W.grownBy W' (some g)) : Turn g (g + 1) W W' := Turn.of_grown h fun k hk => by have := Option.some.inj hk; omega
/-- The cursor, and that nothing else that was there has turned. -/
structure Dg (w : World) (g : Nat) (W : World) : Prop where
  cur : Cur W g
  grown : w.grownBy W (some g)
  hg : g < w.heap.size
section
variable {w W W' : World} {g lo hi : Nat}
theorem Dg.start (h : Cur w g) : Dg w g w := ⟨h, only_same _ _, h.lt⟩
theorem Dg.draw (h : Dg w g W) (hc : Cur W' g) (hw : W.grownBy W' (some g)) : Dg w g W' := ⟨hc, only_then h.grown hw, h.hg⟩
theorem Dg.turn (h : Dg w g W) (t : Turn lo hi W W') (hl : w.heap.size ≤ lo) : Dg w g W' :=
  have hg := h.hg
  have hs := h.grown.size
  ⟨h.cur.upto ⟨t.os, t.tape, t.output, t.size, fun k hk => t.block k (by omega) (.inl (by omega))⟩,
    ⟨t.os.trans h.grown.os, t.tape.trans h.grown.tape, t.output.trans h.grown.output, Nat.le_trans hs t.size, fun k hk hne => (t.block k (by omega) (.inl (by omega))).trans (h.grown.block k hk hne)⟩, hg⟩
theorem Dg.below (h : Dg w g W) (hb : Below W.heap.size W W') : Dg w g W' := h.turn (lo := w.heap.size) (hi := w.heap.size) (Turn.of_below hb) (Nat.le_refl _)
end
end Go.Proofs.YtpmmjaceehlpiaaGreatDoor
/-
  The program's IsName, IndexOf, AreVars, Positions: what each returns.
-/
namespace Go.Proofs.YtpmmjaceehlpiaaGreatDoor
open Go Go.RowKit

set_option maxHeartbeats 400000 in
theorem implIsName (s : ByteArray) (w : World) (hs : s.size ≤ maxLen) : Calls Tryz.prog 125 #[.string s] w fun e w' => e = .returned (.bool (goodName s)) ∧ Below w.heap.size w w' := by
  unfold maxLen at hs
  go_enter Tryz.func125, Tryz.ntmps125
  go_wp2
  go_loopw [3] (fun _ wr => ∃ k : Nat, k ≤ s.size ∧ k ≤ 2 ∧ wr = w.iter s k ∧ ∀ j (h : j < s.size), j < k → 97 ≤ (s[j]'h).toNat ∧ (s[j]'h).toNat ≤ 122) (fun _ wr => s.size - wr.iterPos w.heap.size)
  case atStart => exact ⟨0, Nat.zero_le _, by omega, rfl, fun j _ h => by omega⟩
  case round =>
    obtain ⟨k, hk, hk2, rfl, hall⟩ := hrel
    have Hall := Lib.hid hall
    clear hall
    by_cases hlt : k < s.size
    · by_cases hlow : (s[k]'hlt).toNat < 128
      · have hnx : ∀ ty, (Instr.next (.pointer (some ⟨w.heap.size, 0, none⟩)) true ty).run Tryz.prog (w.iter s k) = _ := fun ty => run_next_ascii w s k ty hlt hlow
        by_cases htwo : k = 2
        · subst htwo
          have hbad : goodName s = false := name_long hlt
          have Hbad := Lib.hid hbad
          clear hbad
          go_wp2
          go_ret
          rw [Hbad.out]
          exact ⟨rfl, (Below.refl _ _).alloc (Nat.le_refl _) _⟩
        · have htwo' : ((k : Int) == 2) = false := by simp; omega
          by_cases hlo : ((s[k]'hlt).toNat : Int) < 97
          · have hbad : goodName s = false := name_bad hlt (.inl (by omega))
            have Hbad := Lib.hid hbad
            clear hbad
            go_wp2
            go_ret
            rw [Hbad.out]
            exact ⟨rfl, (Below.refl _ _).alloc (Nat.le_refl _) _⟩
          · by_cases hhi : 122 < ((s[k]'hlt).toNat : Int)
            · have hbad : goodName s = false := name_bad hlt (.inr (by omega))
              have Hbad := Lib.hid hbad
              clear hbad
              go_wp2
              go_ret
              rw [Hbad.out]
              exact ⟨rfl, (Below.refl _ _).alloc (Nat.le_refl _) _⟩
            · go_wp2
              go_roundw
              case rel =>
                refine ⟨k + 1, by omega, by omega, rfl, fun j h hj => ?_⟩
                by_cases hjk : j = k
                · subst hjk
                  omega
                · exact Hall.out j h (by omega)
              case measure => simp; omega
      · have hnx : ∀ ty, (Instr.next (.pointer (some ⟨w.heap.size, 0, none⟩)) true ty).run Tryz.prog (w.iter s k) = _ := fun ty => run_next_any w s k ty hlt
        have hhigh := (decode_high s k hlt (by omega)).1
        have hbad : goodName s = false := name_bad hlt (.inr (by omega))
        have Hbad := Lib.hid hbad
        clear hbad
        generalize Utf8.decode s k = dc at *
        have hlo : ¬ (dc.1 : Int) < 97 := by omega
        have hhi : 122 < (dc.1 : Int) := by omega
        by_cases htwo : k = 2
        · subst htwo
          go_wp2
          go_ret
          rw [Hbad.out]
          exact ⟨rfl, (Below.refl _ _).alloc (Nat.le_refl _) _⟩
        · have htwo' : ((k : Int) == 2) = false := by simp; omega
          go_wp2
          go_ret
          rw [Hbad.out]
          exact ⟨rfl, (Below.refl _ _).alloc (Nat.le_refl _) _⟩
    · have hnx : ∀ ty, (Instr.next (.pointer (some ⟨w.heap.size, 0, none⟩)) true ty).run Tryz.prog (w.iter s k) = _ := fun ty => run_next_end w s k ty hlt
      have hgood : goodName s = decide (1 ≤ s.size ∧ s.size ≤ 2) := name_whole fun j h => Hall.out j h (by omega)
      have Hgood := Lib.hid hgood
      clear hgood
      by_cases h0 : s = ⟨#[]⟩
      · subst h0
        go_wp2
        go_ret
        rw [Hgood.out]
        exact ⟨rfl, (Below.refl _ _).alloc (Nat.le_refl _) _⟩
      · have hsz : 1 ≤ s.size := by
          rcases Nat.eq_zero_or_pos s.size with h | h
          · exact absurd (ByteArray.size_eq_zero_iff.1 h) h0
          · exact h
        have hne : s.toList.isEmpty = false := by
          rw [ByteArray.toList_eq]
          simpa using (fun h => by simp [ByteArray.size, h] at hsz)
        go_wp2
        go_ret
        rw [Hgood.out, decide_eq_true ⟨hsz, by omega⟩]
        exact ⟨rfl, (Below.refl _ _).alloc (Nat.le_refl _) _⟩

set_option maxHeartbeats 400000 in
theorem implIndexOf (a : Option Addr) (cap : Nat) (ss : List ByteArray) (s : ByteArray) (w : World) (hlen : ss.length ≤ maxLen) (hrow : Row w w.heap.size a (strVals ss)) :
    Calls Tryz.prog 126 #[.slice a ss.length cap, .string s] w fun e w' => e = .returned (.int .i64 (place ss s)) ∧ w = w' := by
  unfold maxLen at hlen
  go_enter Tryz.func126, Tryz.ntmps126
  go_wp2
  go_loop [9] (fun i => ∃ k : Nat, k ≤ ss.length ∧ i = .int .i64 k ∧ place ss s = placeFrom s k (ss.drop k)) (fun i => ss.length - (intOf i).toNat)
  case atStart => exact ⟨0, Nat.zero_le _, rfl, rfl⟩
  case round =>
    obtain ⟨k, hk, rfl, hp⟩ := hrel
    by_cases hlt : k < ss.length
    · obtain ⟨b, o, rfl, hbW, hc⟩ := hrow k (.string ss[k]) (by simp [strVals, hlt])
      cases he : (ss[k].toList == s.toList) with
      | true =>
        rw [place_hit hlt he] at hp
        have Hp := Lib.hid hp
        clear hp
        go_wp2
        go_ret
        rw [Hp.out]
        exact ⟨rfl, rfl⟩
      | false =>
        rw [place_miss hlt he] at hp
        have Hp := Lib.hid hp
        clear hp
        go_wp2
        go_round
        case rel => exact ⟨k + 1, by omega, by go_num, Hp.out⟩
        case measure => simp [intOf]; omega
    · rw [place_end (by omega)] at hp
      have Hp := Lib.hid hp
      clear hp
      go_wp2
      go_ret
      rw [Hp.out]
      exact ⟨rfl, rfl⟩

set_option maxHeartbeats 400000 in
theorem implAreVars (a : Option Addr) (cap : Nat) (ss : List ByteArray) (w : World) (hlen : ss.length ≤ maxLen) (hws : ∀ s ∈ ss, s.size ≤ maxLen) (hrow : Row w w.heap.size a (strVals ss)) :
    Calls Tryz.prog 91 #[.slice a ss.length cap] w fun e w' => e = .returned (.bool (goodVars ss)) ∧ Below w.heap.size w w' := by
  have hlen' := hlen
  unfold maxLen at hlen
  by_cases hin : 1 ≤ ss.length ∧ ss.length ≤ 4
  · have h0 : ((ss.length : Int) == 0) = false := by simp only [beq_eq_false_iff_ne, ne_eq]; omega
    have h4 : ¬ 4 < (ss.length : Int) := by omega
    go_enter Tryz.func91, Tryz.ntmps91
    go_wp2
    go_loopw [15] (fun i wr => ∃ k : Nat, k ≤ ss.length ∧ i = .int .i64 k ∧ Below w.heap.size w wr ∧ ∀ j (h : j < ss.length), j < k → goodName ss[j] = true ∧ place ss ss[j] = (j : Int)) (fun i _ => ss.length - (intOf i).toNat)
    case atStart => exact ⟨0, Nat.zero_le _, rfl, Below.refl _ _, fun j _ h => by omega⟩
    case round =>
      obtain ⟨k, hk, rfl, hb, hall⟩ := hrel
      have Hall := Lib.hid hall
      clear hall
      by_cases hlt : k < ss.length
      · obtain ⟨b, o, rfl, hbW, hc0⟩ := hrow k (.string ss[k]) (by simp [strVals, hlt])
        have hc : wr.cell? ⟨b, o + k, none⟩ = some (.string ss[k]) := (hb.cell (p := ⟨b, o + k, none⟩) hbW).trans hc0
        clear hc0
        have hsz := hws ss[k] (List.getElem_mem hlt)
        cases hg : goodName ss[k] with
        | false =>
          have hbad : goodVars ss = false := vars_bad hlt (by rw [hg]; simp)
          have Hbad := Lib.hid hbad
          have Hg := Lib.hid hg
          clear hbad hg
          go_wp2_with fail
          refine (implIsName ss[k] _ hsz).mono ?_
          rintro e w1 ⟨rfl, hb1⟩
          rw [Hg.out]
          have hb2 := hb.trans (hb1.mono hb.size)
          clear hb1
          go_wp2
          go_ret
          rw [Hbad.out]
          exact ⟨rfl, hb2⟩
        | true =>
          have Hg := Lib.hid hg
          clear hg
          go_wp2_with fail
          refine (implIsName ss[k] _ hsz).mono ?_
          rintro e w1 ⟨rfl, hb1⟩
          rw [Hg.out]
          have hb2 := hb.trans (hb1.mono hb.size)
          clear hb1 hc
          go_wp2_with fail
          refine (implIndexOf _ _ ss ss[k] _ hlen' ((hrow.below hb2).grow hb2.size)).mono ?_
          rintro e w1 ⟨rfl, rfl⟩
          by_cases hp : place ss ss[k] = (k : Int)
          · rw [hp]
            have Hp := Lib.hid hp
            clear hp
            go_wp2
            go_roundw
            case rel =>
              refine ⟨k + 1, by omega, by go_num, hb2, fun j h hj => ?_⟩
              by_cases hjk : j = k
              · subst hjk
                exact ⟨Hg.out, Hp.out⟩
              · exact Hall.out j h (by omega)
            case measure => simp [intOf]; omega
          · have hbad : goodVars ss = false := vars_bad hlt (fun h => hp h.2)
            have Hbad := Lib.hid hbad
            have hne : (place ss ss[k] != (k : Int)) = true := by simpa using hp
            clear hbad
            generalize place ss ss[k] = q at *
            go_wp2
            go_ret
            rw [Hbad.out]
            exact ⟨rfl, hb2⟩
      · have hgood : goodVars ss = true := by
          rw [vars_whole fun j h => Hall.out j h (by omega)]
          exact decide_eq_true hin
        have Hgood := Lib.hid hgood
        clear hgood
        go_wp2
        go_ret
        rw [Hgood.out]
        exact ⟨rfl, hb⟩
  · have hbad : goodVars ss = false := vars_length hin
    have Hbad := Lib.hid hbad
    clear hbad
    rcases Nat.eq_zero_or_pos ss.length with h | h
    · rw [h]
      go_enter Tryz.func91, Tryz.ntmps91
      go_wp2
      go_ret
      rw [Hbad.out]
      exact ⟨rfl, Below.refl _ _⟩
    · have h0 : ((ss.length : Int) == 0) = false := by simp only [beq_eq_false_iff_ne, ne_eq]; omega
      have h4 : 4 < (ss.length : Int) := by omega
      go_enter Tryz.func91, Tryz.ntmps91
      go_wp2
      go_ret
      rw [Hbad.out]
      exact ⟨rfl, Below.refl _ _⟩

set_option maxRecDepth 100000 in
set_option maxHeartbeats 800000 in
theorem implPositions (a : Option Addr) (cap : Nat) (ns : List Int) (n : Int) (w : World) (hlen : ns.length ≤ 1048576) (hrow : Row w w.heap.size a (intVals ns)) :
    Calls Tryz.prog 99 #[.slice a ns.length cap, .int .i64 n] w (Built w.heap.size 3 (intVals (posFrom n 0 ns)) w) := by
  obtain ⟨i0, hi, hz0, hz1, hz2⟩ := info_parts numInfo
  go_enter Tryz.func99, Tryz.ntmps99
  go_wp2
  go_loopw [5, 10] (fun v i wr => ∃ (k : Nat) (qs : List Int), k ≤ ns.length ∧ i = .int .i64 k ∧ qs.length ≤ k ∧ qs ++ posFrom n k (ns.drop k) = posFrom n 0 ns ∧ wr.ownsRow w.heap.size 3 1 v qs.length (intVals qs) ∧ Below w.heap.size w wr)
    (fun _ i _ => ns.length - (intOf i).toNat)
  case atStart => exact ⟨0, [], Nat.zero_le _, rfl, Nat.le_refl _, rfl, ⟨rfl, .inl ⟨rfl, rfl⟩⟩, Below.refl _ _⟩
  case round =>
    obtain ⟨k, qs, hk, rfl, hql, hq, hown, hbw⟩ := hrel
    have Hown := Lib.hid hown
    clear hown
    by_cases hlt : k < ns.length
    · obtain ⟨b, o, rfl, hbW, hc0⟩ := hrow k (.int .i64 ns[k]) (intVals_at ns k hlt)
      have hc : wr.cell? ⟨b, o + k, none⟩ = some (.int .i64 ns[k]) := (hbw.cell (p := ⟨b, o + k, none⟩) hbW).trans hc0
      clear hc0
      by_cases he : ns[k] = n
      · rw [pos_hit hlt he] at hq
        have Hq := Lib.hid hq
        have hd : (ns[k] == n) = true := by simpa using he
        clear hq he
        go_wp2_with (at_builtin; refine wpList_append_own _ rfl (.tmp 18) (.tmp 20) 28 rfl w.heap.size 3 i0 (.int .i64 0) 1 8 Tryz.underlying28 hi hz0 hz1 hz2 rfl (by decide) _ qs.length _ rfl (Hown.out.alloc _) ⟨wr.heap.size, 0, none⟩ 1 1 [.int .i64 (k : Int)] rfl rfl (oneCell_at _) (oneCell_int _) (by unfold maxLen; omega) (by omega) (Nat.le_trans hbw.size (by simp)) ?_; intro v2 w2 hown2 hg2 _; have hb2 := own_below (Hown.out.alloc _) hg2 (Nat.le_trans hbw.size (by simp)) (hbw.alloc hbw.size _); clear hg2)
        go_roundw
        case rel => exact ⟨k + 1, qs ++ [(k : Int)], by omega, by go_num, by simp; omega, by rw [← Hq.out]; simp, by rw [intVals_snoc, List.length_append, List.length_singleton]; exact hown2, hb2⟩
        case measure => simp [intOf]; omega
      · rw [pos_miss hlt he] at hq
        have Hq := Lib.hid hq
        have hd : (ns[k] == n) = false := by simpa using he
        clear hq he
        go_wp2
        go_roundw
        case rel => exact ⟨k + 1, qs, by omega, by go_num, by omega, Hq.out, Hown.out, hbw⟩
        case measure => simp [intOf]; omega
    · rw [pos_end (by omega), List.append_nil] at hq
      have Hq := Lib.hid hq
      clear hq
      go_wp2
      go_ret
      rw [← Hq.out]
      exact built_end (intVals_length _).symm Hown.out hbw
end Go.Proofs.YtpmmjaceehlpiaaGreatDoor
/-
  Go's library over rows of numbers: a copy, a question, a cell taken out. The library's contracts are the shelf's.
-/
namespace Go.Proofs.YtpmmjaceehlpiaaGreatDoor
open Go Go.RowKit Go.ChangeShapes Go.WideShapes Go.ChangeAt

theorem row_cells {w : World} {B : Nat} {a : Option Addr} {ns : List Int} (h : Row w B a (intVals ns)) (hn : ns ≠ []) : ∃ b o, a = some ⟨b, o, none⟩ ∧ b < B ∧ ∀ j, j < ns.length → w.cell? ⟨b, o + j, none⟩ = some (.int .i64 (ns.getD j 0)) := by
  have h0 : 0 < ns.length := List.length_pos_iff.2 hn
  obtain ⟨b, o, rfl, hb, _⟩ := h 0 _ (intVals_at ns 0 h0)
  refine ⟨b, o, rfl, hb, fun j hj => ?_⟩
  obtain ⟨b', o', e, _, hc⟩ := h j _ (intVals_at ns j hj)
  injection e with e
  injection e with e1 e2
  subst e1 e2
  rw [hc]
  simp [hj]

theorem libContains (a : Option Addr) (c : Nat) (ns : List Int) (x : Int) (w : World) (hn : ns.length ≤ maxLen) (h : Row w w.heap.size a (intVals ns)) :
    Calls Tryz.prog 53 #[.slice a ns.length c, .int .i64 x] w fun e w' => e = .returned (.bool (decide (x ∈ ns))) ∧ w = w' := by
  by_cases h0 : ns = []
  · subst h0
    refine (Tryz.slices_Contains_int_empty a c x w).mono ?_
    rintro e w' ⟨rfl, rfl⟩
    exact ⟨by simp, rfl⟩
  · obtain ⟨b, o, rfl, _, hc⟩ := row_cells h h0
    refine (Tryz.slices_Contains_int b o ns.length c ns x w (Nat.le_refl _) (by unfold maxLen at hn; omega) hc).mono ?_
    rintro e w' ⟨rfl, rfl⟩
    exact ⟨by rw [List.take_length]; simp, rfl⟩

/-- A copy of a row of numbers. -/
def CopyInts (ns : List Int) (w : World) (e : Ending) (w' : World) : Prop :=
  ∃ a c, e = .returned (.slice a ns.length c) ∧ w'.ownsRow w.heap.size 3 1 (.slice a ns.length c) ns.length (intVals ns) ∧ Below w.heap.size w w'
theorem own_shape2 {w : World} {base e size n : Nat} {v : Value} {xs : List Value} (h : w.ownsRow base e size v n xs) : ∃ a c, v = .slice a n c := by
  rcases h.2 with ⟨rfl, rfl⟩ | ⟨g, cap, cur, rfl, _, _, hc, _⟩
  · exact ⟨_, _, rfl⟩
  · exact ⟨_, _, rfl⟩
theorem libClone (a : Option Addr) (c : Nat) (ns : List Int) (w : World) (hn : ns.length ≤ 1048576) (h : Row w w.heap.size a (intVals ns)) :
    Calls Tryz.prog 97 #[.slice a ns.length c] w (CopyInts ns w) := by
  by_cases h0 : ns = []
  · subst h0
    cases a with
    | none =>
      refine (Tryz.slices_Clone_int_nil 0 c w).mono ?_
      rintro e w' ⟨rfl, rfl⟩
      exact ⟨none, 0, rfl, World.ownsRow_nil _ _ _ _, Below.refl _ _⟩
    | some a =>
      refine (Tryz.slices_Clone_int_zero a c w).mono ?_
      rintro e w' ⟨v', rfl, ho, _, hb⟩
      obtain ⟨a', c', rfl⟩ := own_shape2 ho
      exact ⟨a', c', rfl, ho, hb⟩
  · obtain ⟨b, o, rfl, _, hc⟩ := row_cells h h0
    refine (Tryz.slices_Clone_int b o ns.length c ns w (Nat.le_refl _) (by omega) hc).mono ?_
    rintro e w' ⟨v', rfl, ho, _, hb⟩
    obtain ⟨a', c', rfl⟩ := own_shape2 ho
    rw [List.take_length] at ho
    exact ⟨a', c', rfl, ho, hb⟩

theorem own_cells {base e n cap g : Nat} : ∀ (us : List Value) (o : Nat) {w : World} {xs : List Value}, w.ownsRow base e 1 (.slice (some ⟨g, 0, none⟩) n cap) n xs → o + us.length = n →
    (w.setCells g o us).ownsRow base e 1 (.slice (some ⟨g, 0, none⟩) n cap) n (xs.take o ++ us) ∧ Turn g (g + 1) w (w.setCells g o us)
  | [], o, w, xs, h, hl => by
    have hx := h.1
    simp only [List.length_nil, Nat.add_zero, Nat.mul_one] at hl hx
    rw [List.append_nil, List.take_of_length_le (by omega)]
    exact ⟨h, Turn.of_below (Below.refl _ _)⟩
  | u :: us, o, w, xs, h, hl => by
    have hx := h.1
    simp only [List.length_cons, Nat.mul_one] at hl hx
    have h1 := own_cells us (o + 1) (h.stored o u).1 (by omega)
    have hset : (xs.set o u).take (o + 1) = xs.take o ++ [u] := by
      rw [List.take_succ_eq_append_getElem (by simp; omega)]
      simp [List.take_set_of_le]
    rw [hset, List.append_assoc] at h1
    exact ⟨h1.1, (turn_cell w g o u).trans h1.2⟩
where turn_cell (W : World) (b i : Nat) (u : Value) : Turn b (b + 1) W (W.setCell ⟨b, i, none⟩ u) :=
  ⟨rfl, rfl, rfl, by simp, fun k _ hd => Below.heap_setCell _ _ _ _ (by show k ≠ b; omega)⟩
theorem own_less {w : World} {base e n m cap g : Nat} {xs : List Value} (h : w.ownsRow base e 1 (.slice (some ⟨g, 0, none⟩) n cap) n xs) (hm : m ≤ n) : w.ownsRow base e 1 (.slice (some ⟨g, 0, none⟩) m cap) m (xs.take m) := by
  have hx := h.1
  rcases h.2 with ⟨hv, _⟩ | ⟨g', cap', cur, hv, hb, hg, hnc, hcm, hcs, ht⟩
  · cases hv
  · simp only [Value.slice.injEq, Option.some.injEq, Addr.mk.injEq, and_true, true_and] at hv
    obtain ⟨rfl, rfl⟩ := hv
    refine ⟨by simp; omega, .inr ⟨g, cap, cur, rfl, hb, hg, by omega, hcm, hcs, ?_⟩⟩
    rw [← ht, List.take_take]
    congr 1
    omega

/-- One cell taken out of a row that may be written. -/
def TakenInt (lo hi g k c : Nat) (ns : List Int) (w : World) (e : Ending) (w' : World) : Prop :=
  e = .returned (.slice (some ⟨g, 0, none⟩) (ns.length - 1) c) ∧ OwnIn lo hi w' 3 1 (.slice (some ⟨g, 0, none⟩) (ns.length - 1) c) (ns.length - 1) (intVals (ns.eraseIdx k)) ∧ Turn g (g + 1) w w'
theorem libDelete {lo hi g k c : Nat} {ns : List Int} {w : World} (hk : k < ns.length) (h : OwnIn lo hi w 3 1 (.slice (some ⟨g, 0, none⟩) ns.length c) ns.length (intVals ns)) :
    Calls Tryz.prog 168 #[.slice (some ⟨g, 0, none⟩) ns.length c, .int .i64 (k : Int), .int .i64 ((k + 1 : Nat) : Int)] w (TakenInt lo hi g k c ns w) := by
  have hcap : ns.length ≤ c ∧ c ≤ 9223372036854775807 := by
    rcases h.2.1.2 with ⟨hv, _⟩ | ⟨g', cap', cur, hv, hb, hg, hnc, hcm, hcs, ht⟩
    · cases hv
    · simp only [Value.slice.injEq, Option.some.injEq, Addr.mk.injEq, and_true, true_and] at hv
      obtain ⟨rfl, rfl⟩ := hv
      unfold maxLen at hcm
      omega
  have hfr := h.2.1.frozenAt
  have hrow := h.row
  obtain ⟨b, o, e, _, hc⟩ := row_cells hrow (fun e => by rw [e] at hk; simp at hk)
  injection e with e
  injection e with e1 e2
  subst e1 e2
  refine (Tryz.slices_Delete_int_cells g 0 ns.length c k (k + 1) ns w (Nat.le_refl _) hcap.1 hcap.2 (by omega) (by omega) hc (fun j _ => by rw [Nat.zero_add]; exact hfr j)).mono ?_
  rintro e w' ⟨rfl, q, rfl⟩
  rw [List.take_length, show k + 1 - k = 1 by omega]
  have hown : (w.drewN q).ownsRow lo 3 1 (.slice (some ⟨g, 0, none⟩) ns.length c) ns.length (intVals ns) := own_keeps h.2.1 (below_draws (Below.refl _ _) q)
  obtain ⟨h1, t1⟩ := own_cells (ns.take k ++ ns.drop (k + 1) ++ List.replicate 1 0 |>.map (Value.int .i64)) 0 hown (by simp; omega)
  have h2 := own_less h1 (m := ns.length - 1) (by omega)
  have T : Turn g (g + 1) w ((w.drewN q).setCells g 0 ((ns.take k ++ ns.drop (k + 1) ++ List.replicate 1 0).map (Value.int .i64))) := (Turn.of_below (below_draws (Below.refl _ _) q)).trans t1
  refine ⟨rfl, ⟨Nat.le_trans h.1 T.size, ?_, fun j hj => h.2.2 j hj⟩, T⟩
  have e : intVals (ns.eraseIdx k) = ((intVals ns).take 0 ++ (ns.take k ++ ns.drop (k + 1) ++ List.replicate 1 0).map (Value.int .i64)).take (ns.length - 1) := by
    rw [List.take_zero, List.nil_append, ← List.map_take, List.take_append_of_le_length (by simp; omega), List.take_of_length_le (by simp; omega), List.eraseIdx_eq_take_drop_succ]
    rfl
  rw [e]
  exact h2
end Go.Proofs.YtpmmjaceehlpiaaGreatDoor
/-
  A statement over variables: what chapter 4's IsStmt comes to; the walks of the program's function and of the model's.
-/
namespace Go.Proofs.YtpmmjaceehlpiaaGreatDoor
open Go Go.RowKit

def operandB (ss : List ByteArray) (s : ByteArray) (used : Bool) : Bool := if used then decide (0 ≤ place ss s) else s.toList.isEmpty
def stmtB (ss : List ByteArray) (k : Int) (a b : ByteArray) : Bool := goodVars ss && decide (0 ≤ namesN k) && operandB ss a (decide (1 ≤ namesN k)) && operandB ss b (decide (2 ≤ namesN k))

set_option maxHeartbeats 400000 in
theorem implIsOperand (a : Option Addr) (cap : Nat) (ss : List ByteArray) (s : ByteArray) (used : Bool) (w : World) (hlen : ss.length ≤ maxLen) (hrow : Row w w.heap.size a (strVals ss)) :
    Calls Tryz.prog 128 #[.slice a ss.length cap, .string s, .bool used] w (GaveW (.bool (operandB ss s used)) w) := by
  cases used with
  | true =>
    go_enter Tryz.func128, Tryz.ntmps128
    go_wp2_with fail
    refine (implIndexOf _ _ ss s _ hlen hrow).mono ?_
    rintro e w1 ⟨rfl, rfl⟩
    go_wp2
    go_ret
    exact ⟨rfl, rfl⟩
  | false =>
    go_enter Tryz.func128, Tryz.ntmps128
    go_wp2
    go_ret
    exact ⟨rfl, rfl⟩

set_option maxHeartbeats 3200000 in
theorem implIsStmt (a : Option Addr) (cap : Nat) (ss : List ByteArray) (k : Int) (sa sb : ByteArray) (w : World) (hlen : ss.length ≤ maxLen) (hws : ∀ s ∈ ss, s.size ≤ maxLen) (hrow : Row w w.heap.size a (strVals ss)) (hT : HasNamesTable w) :
    Calls Tryz.prog 93 #[.slice a ss.length cap, stV k sa sb] w (GaveB (.bool (stmtB ss k sa sb)) w) := by
  have hT1 : HasNamesTable (w.alloc (.cells #[.int .i64 k, .string sa, .string sb] 83)) := hT.keeps ((Below.refl _ _).alloc (Nat.le_refl _) _)
  have hr1 : Row (w.alloc (.cells #[.int .i64 k, .string sa, .string sb] 83)) (w.heap.size + 1) a (strVals ss) := (hrow.below ((Below.refl _ _).alloc (Nat.le_refl _) _)).grow (by omega)
  rcases namesN_four k with hn | hn | hn | hn
  · skip
    rw [show stmtB ss k sa sb = false from by simp [stmtB, operandB, hn]]
    have HN := Lib.hid hn
    clear hn
    go_enter Tryz.func93, Tryz.ntmps93
    go_wp2_with fail
    refine (implNamesOf k _ hT1).mono ?_
    rw [HN.out]
    rintro e w1 ⟨rfl, rfl⟩
    go_wp2
    go_ret
    exact ⟨rfl, (Below.refl _ _).alloc (Nat.le_refl _) _⟩
  · cases hg : goodVars ss with
    | false =>
      rw [show stmtB ss k sa sb = false from by simp [stmtB, operandB, hg]]
      have HN := Lib.hid hn
      have HG := Lib.hid hg
      clear hn hg
      go_enter Tryz.func93, Tryz.ntmps93
      go_wp2_with fail
      refine (implNamesOf k _ hT1).mono ?_
      rw [HN.out]
      rintro e w1 ⟨rfl, rfl⟩
      go_wp2_with fail
      refine (implAreVars _ _ ss _ hlen hws (by simpa using hr1)).mono ?_
      rw [HG.out]
      rintro e w2 ⟨rfl, hb2⟩
      obtain ⟨hc2, _⟩ := bcell hb2
      have hs2 : w.heap.size < w2.heap.size := by have h := hb2.size; simp at h; omega
      have hr2 : Row w2 w2.heap.size a (strVals ss) := (hr1.below (hb2.mono (by simp))).grow (by omega)
      have hB2 : Below w.heap.size w w2 := ((Below.refl _ _).alloc (Nat.le_refl _) _).trans (hb2.mono (by simp))
      clear hb2
      go_wp2
      go_ret
      exact ⟨rfl, hB2⟩
    | true =>
      cases ha : operandB ss sa false with
      | false =>
        rw [show stmtB ss k sa sb = false from by simp [stmtB, hn, hg, ha]]
        have HN := Lib.hid hn
        have HG := Lib.hid hg
        have HA := Lib.hid ha
        clear hn hg ha
        go_enter Tryz.func93, Tryz.ntmps93
        go_wp2_with fail
        refine (implNamesOf k _ hT1).mono ?_
        rw [HN.out]
        rintro e w1 ⟨rfl, rfl⟩
        go_wp2_with fail
        refine (implAreVars _ _ ss _ hlen hws (by simpa using hr1)).mono ?_
        rw [HG.out]
        rintro e w2 ⟨rfl, hb2⟩
        obtain ⟨hc2, _⟩ := bcell hb2
        have hs2 : w.heap.size < w2.heap.size := by have h := hb2.size; simp at h; omega
        have hr2 : Row w2 w2.heap.size a (strVals ss) := (hr1.below (hb2.mono (by simp))).grow (by omega)
        have hB2 : Below w.heap.size w w2 := ((Below.refl _ _).alloc (Nat.le_refl _) _).trans (hb2.mono (by simp))
        clear hb2
        go_wp2_with fail
        refine (implIsOperand _ _ ss sa false _ hlen hr2).mono ?_
        rw [HA.out]
        rintro e w3 ⟨rfl, rfl⟩
        go_wp2
        go_ret
        exact ⟨rfl, hB2⟩
      | true =>
        rw [show stmtB ss k sa sb = operandB ss sb false from by simp [stmtB, hn, hg, ha]]
        have HN := Lib.hid hn
        have HG := Lib.hid hg
        have HA := Lib.hid ha
        clear hn hg ha
        go_enter Tryz.func93, Tryz.ntmps93
        go_wp2_with fail
        refine (implNamesOf k _ hT1).mono ?_
        rw [HN.out]
        rintro e w1 ⟨rfl, rfl⟩
        go_wp2_with fail
        refine (implAreVars _ _ ss _ hlen hws (by simpa using hr1)).mono ?_
        rw [HG.out]
        rintro e w2 ⟨rfl, hb2⟩
        obtain ⟨hc2, _⟩ := bcell hb2
        have hs2 : w.heap.size < w2.heap.size := by have h := hb2.size; simp at h; omega
        have hr2 : Row w2 w2.heap.size a (strVals ss) := (hr1.below (hb2.mono (by simp))).grow (by omega)
        have hB2 : Below w.heap.size w w2 := ((Below.refl _ _).alloc (Nat.le_refl _) _).trans (hb2.mono (by simp))
        clear hb2
        go_wp2_with fail
        refine (implIsOperand _ _ ss sa false _ hlen hr2).mono ?_
        rw [HA.out]
        rintro e w3 ⟨rfl, rfl⟩
        go_wp2_with fail
        refine (implIsOperand _ _ ss sb false _ hlen hr2).mono ?_
        rintro e w3 ⟨rfl, rfl⟩
        go_wp2
        go_ret
        exact ⟨rfl, hB2⟩
  · cases hg : goodVars ss with
    | false =>
      rw [show stmtB ss k sa sb = false from by simp [stmtB, operandB, hg]]
      have HN := Lib.hid hn
      have HG := Lib.hid hg
      clear hn hg
      go_enter Tryz.func93, Tryz.ntmps93
      go_wp2_with fail
      refine (implNamesOf k _ hT1).mono ?_
      rw [HN.out]
      rintro e w1 ⟨rfl, rfl⟩
      go_wp2_with fail
      refine (implAreVars _ _ ss _ hlen hws (by simpa using hr1)).mono ?_
      rw [HG.out]
      rintro e w2 ⟨rfl, hb2⟩
      obtain ⟨hc2, _⟩ := bcell hb2
      have hs2 : w.heap.size < w2.heap.size := by have h := hb2.size; simp at h; omega
      have hr2 : Row w2 w2.heap.size a (strVals ss) := (hr1.below (hb2.mono (by simp))).grow (by omega)
      have hB2 : Below w.heap.size w w2 := ((Below.refl _ _).alloc (Nat.le_refl _) _).trans (hb2.mono (by simp))
      clear hb2
      go_wp2
      go_ret
      exact ⟨rfl, hB2⟩
    | true =>
      cases ha : operandB ss sa true with
      | false =>
        rw [show stmtB ss k sa sb = false from by simp [stmtB, hn, hg, ha]]
        have HN := Lib.hid hn
        have HG := Lib.hid hg
        have HA := Lib.hid ha
        clear hn hg ha
        go_enter Tryz.func93, Tryz.ntmps93
        go_wp2_with fail
        refine (implNamesOf k _ hT1).mono ?_
        rw [HN.out]
        rintro e w1 ⟨rfl, rfl⟩
        go_wp2_with fail
        refine (implAreVars _ _ ss _ hlen hws (by simpa using hr1)).mono ?_
        rw [HG.out]
        rintro e w2 ⟨rfl, hb2⟩
        obtain ⟨hc2, _⟩ := bcell hb2
        have hs2 : w.heap.size < w2.heap.size := by have h := hb2.size; simp at h; omega
        have hr2 : Row w2 w2.heap.size a (strVals ss) := (hr1.below (hb2.mono (by simp))).grow (by omega)
        have hB2 : Below w.heap.size w w2 := ((Below.refl _ _).alloc (Nat.le_refl _) _).trans (hb2.mono (by simp))
        clear hb2
        go_wp2_with fail
        refine (implIsOperand _ _ ss sa true _ hlen hr2).mono ?_
        rw [HA.out]
        rintro e w3 ⟨rfl, rfl⟩
        go_wp2
        go_ret
        exact ⟨rfl, hB2⟩
      | true =>
        rw [show stmtB ss k sa sb = operandB ss sb false from by simp [stmtB, hn, hg, ha]]
        have HN := Lib.hid hn
        have HG := Lib.hid hg
        have HA := Lib.hid ha
        clear hn hg ha
        go_enter Tryz.func93, Tryz.ntmps93
        go_wp2_with fail
        refine (implNamesOf k _ hT1).mono ?_
        rw [HN.out]
        rintro e w1 ⟨rfl, rfl⟩
        go_wp2_with fail
        refine (implAreVars _ _ ss _ hlen hws (by simpa using hr1)).mono ?_
        rw [HG.out]
        rintro e w2 ⟨rfl, hb2⟩
        obtain ⟨hc2, _⟩ := bcell hb2
        have hs2 : w.heap.size < w2.heap.size := by have h := hb2.size; simp at h; omega
        have hr2 : Row w2 w2.heap.size a (strVals ss) := (hr1.below (hb2.mono (by simp))).grow (by omega)
        have hB2 : Below w.heap.size w w2 := ((Below.refl _ _).alloc (Nat.le_refl _) _).trans (hb2.mono (by simp))
        clear hb2
        go_wp2_with fail
        refine (implIsOperand _ _ ss sa true _ hlen hr2).mono ?_
        rw [HA.out]
        rintro e w3 ⟨rfl, rfl⟩
        go_wp2_with fail
        refine (implIsOperand _ _ ss sb false _ hlen hr2).mono ?_
        rintro e w3 ⟨rfl, rfl⟩
        go_wp2
        go_ret
        exact ⟨rfl, hB2⟩
  · cases hg : goodVars ss with
    | false =>
      rw [show stmtB ss k sa sb = false from by simp [stmtB, operandB, hg]]
      have HN := Lib.hid hn
      have HG := Lib.hid hg
      clear hn hg
      go_enter Tryz.func93, Tryz.ntmps93
      go_wp2_with fail
      refine (implNamesOf k _ hT1).mono ?_
      rw [HN.out]
      rintro e w1 ⟨rfl, rfl⟩
      go_wp2_with fail
      refine (implAreVars _ _ ss _ hlen hws (by simpa using hr1)).mono ?_
      rw [HG.out]
      rintro e w2 ⟨rfl, hb2⟩
      obtain ⟨hc2, _⟩ := bcell hb2
      have hs2 : w.heap.size < w2.heap.size := by have h := hb2.size; simp at h; omega
      have hr2 : Row w2 w2.heap.size a (strVals ss) := (hr1.below (hb2.mono (by simp))).grow (by omega)
      have hB2 : Below w.heap.size w w2 := ((Below.refl _ _).alloc (Nat.le_refl _) _).trans (hb2.mono (by simp))
      clear hb2
      go_wp2
      go_ret
      exact ⟨rfl, hB2⟩
    | true =>
      cases ha : operandB ss sa true with
      | false =>
        rw [show stmtB ss k sa sb = false from by simp [stmtB, hn, hg, ha]]
        have HN := Lib.hid hn
        have HG := Lib.hid hg
        have HA := Lib.hid ha
        clear hn hg ha
        go_enter Tryz.func93, Tryz.ntmps93
        go_wp2_with fail
        refine (implNamesOf k _ hT1).mono ?_
        rw [HN.out]
        rintro e w1 ⟨rfl, rfl⟩
        go_wp2_with fail
        refine (implAreVars _ _ ss _ hlen hws (by simpa using hr1)).mono ?_
        rw [HG.out]
        rintro e w2 ⟨rfl, hb2⟩
        obtain ⟨hc2, _⟩ := bcell hb2
        have hs2 : w.heap.size < w2.heap.size := by have h := hb2.size; simp at h; omega
        have hr2 : Row w2 w2.heap.size a (strVals ss) := (hr1.below (hb2.mono (by simp))).grow (by omega)
        have hB2 : Below w.heap.size w w2 := ((Below.refl _ _).alloc (Nat.le_refl _) _).trans (hb2.mono (by simp))
        clear hb2
        go_wp2_with fail
        refine (implIsOperand _ _ ss sa true _ hlen hr2).mono ?_
        rw [HA.out]
        rintro e w3 ⟨rfl, rfl⟩
        go_wp2
        go_ret
        exact ⟨rfl, hB2⟩
      | true =>
        rw [show stmtB ss k sa sb = operandB ss sb true from by simp [stmtB, hn, hg, ha]]
        have HN := Lib.hid hn
        have HG := Lib.hid hg
        have HA := Lib.hid ha
        clear hn hg ha
        go_enter Tryz.func93, Tryz.ntmps93
        go_wp2_with fail
        refine (implNamesOf k _ hT1).mono ?_
        rw [HN.out]
        rintro e w1 ⟨rfl, rfl⟩
        go_wp2_with fail
        refine (implAreVars _ _ ss _ hlen hws (by simpa using hr1)).mono ?_
        rw [HG.out]
        rintro e w2 ⟨rfl, hb2⟩
        obtain ⟨hc2, _⟩ := bcell hb2
        have hs2 : w.heap.size < w2.heap.size := by have h := hb2.size; simp at h; omega
        have hr2 : Row w2 w2.heap.size a (strVals ss) := (hr1.below (hb2.mono (by simp))).grow (by omega)
        have hB2 : Below w.heap.size w w2 := ((Below.refl _ _).alloc (Nat.le_refl _) _).trans (hb2.mono (by simp))
        clear hb2
        go_wp2_with fail
        refine (implIsOperand _ _ ss sa true _ hlen hr2).mono ?_
        rw [HA.out]
        rintro e w3 ⟨rfl, rfl⟩
        go_wp2_with fail
        refine (implIsOperand _ _ ss sb true _ hlen hr2).mono ?_
        rintro e w3 ⟨rfl, rfl⟩
        go_wp2
        go_ret
        exact ⟨rfl, hB2⟩

set_option maxHeartbeats 3200000 in
theorem specIsStmt (a : Option Addr) (cap : Nat) (ss : List ByteArray) (k : Int) (sa sb : ByteArray) (w : World) (hlen : ss.length ≤ maxLen) (hws : ∀ s ∈ ss, s.size ≤ maxLen) (hrow : Row w w.heap.size a (strVals ss)) :
    Calls Tryz.prog 101 #[.slice a ss.length cap, stV k sa sb] w (GaveB (.bool (stmtB ss k sa sb)) w) := by
  have hr1 : Row (w.alloc (.cells #[.int .i64 k, .string sa, .string sb] 83)) (w.heap.size + 1) a (strVals ss) := (hrow.below ((Below.refl _ _).alloc (Nat.le_refl _) _)).grow (by omega)
  have hB1 : Below w.heap.size w (w.alloc (.cells #[.int .i64 k, .string sa, .string sb] 83)) := (Below.refl _ _).alloc (Nat.le_refl _) _
  rcases namesN_four k with hn | hn | hn | hn
  · cases hg : goodVars ss with
    | false =>
      rw [show stmtB ss k sa sb = false from by simp [stmtB, operandB, hg]]
      have HN := Lib.hid hn
      have HG := Lib.hid hg
      clear hn hg
      go_enter Tryz.func101, Tryz.ntmps101
      go_wp2_with fail
      refine (specNamesOf k _).mono ?_
      rw [HN.out]
      rintro e w1 ⟨rfl, rfl⟩
      go_wp2_with fail
      refine (specAreVars _ _ ss _ hlen hws (by simpa using hr1)).mono ?_
      rw [HG.out]
      rintro e w2 ⟨rfl, rfl⟩
      go_wp2
      go_ret
      exact ⟨rfl, hB1⟩
    | true =>
      rw [show stmtB ss k sa sb = false from by simp [stmtB, operandB, hn]]
      have HN := Lib.hid hn
      have HG := Lib.hid hg
      clear hn hg
      go_enter Tryz.func101, Tryz.ntmps101
      go_wp2_with fail
      refine (specNamesOf k _).mono ?_
      rw [HN.out]
      rintro e w1 ⟨rfl, rfl⟩
      go_wp2_with fail
      refine (specAreVars _ _ ss _ hlen hws (by simpa using hr1)).mono ?_
      rw [HG.out]
      rintro e w2 ⟨rfl, rfl⟩
      go_wp2
      go_ret
      exact ⟨rfl, hB1⟩
  · cases hg : goodVars ss with
    | false =>
      rw [show stmtB ss k sa sb = false from by simp [stmtB, operandB, hg]]
      have HN := Lib.hid hn
      have HG := Lib.hid hg
      clear hn hg
      go_enter Tryz.func101, Tryz.ntmps101
      go_wp2_with fail
      refine (specNamesOf k _).mono ?_
      rw [HN.out]
      rintro e w1 ⟨rfl, rfl⟩
      go_wp2_with fail
      refine (specAreVars _ _ ss _ hlen hws (by simpa using hr1)).mono ?_
      rw [HG.out]
      rintro e w2 ⟨rfl, rfl⟩
      go_wp2
      go_ret
      exact ⟨rfl, hB1⟩
    | true =>
      cases ha : sa.toList.isEmpty with
      | false =>
        rw [show stmtB ss k sa sb = false from by simp [stmtB, operandB, hn, hg, ha]]
        have HN := Lib.hid hn
        have HG := Lib.hid hg
        clear hn hg
        go_enter Tryz.func101, Tryz.ntmps101
        go_wp2_with fail
        refine (specNamesOf k _).mono ?_
        rw [HN.out]
        rintro e w1 ⟨rfl, rfl⟩
        go_wp2_with fail
        refine (specAreVars _ _ ss _ hlen hws (by simpa using hr1)).mono ?_
        rw [HG.out]
        rintro e w2 ⟨rfl, rfl⟩
        go_wp2
        go_ret
        exact ⟨rfl, hB1⟩
      | true =>
        cases hb : sb.toList.isEmpty with
        | false =>
          rw [show stmtB ss k sa sb = false from by simp [stmtB, operandB, hn, hg, ha, hb]]
          have HN := Lib.hid hn
          have HG := Lib.hid hg
          clear hn hg
          go_enter Tryz.func101, Tryz.ntmps101
          go_wp2_with fail
          refine (specNamesOf k _).mono ?_
          rw [HN.out]
          rintro e w1 ⟨rfl, rfl⟩
          go_wp2_with fail
          refine (specAreVars _ _ ss _ hlen hws (by simpa using hr1)).mono ?_
          rw [HG.out]
          rintro e w2 ⟨rfl, rfl⟩
          go_wp2
          go_ret
          exact ⟨rfl, hB1⟩
        | true =>
          rw [show stmtB ss k sa sb = true from by simp [stmtB, operandB, hn, hg, ha, hb]]
          have HN := Lib.hid hn
          have HG := Lib.hid hg
          clear hn hg
          go_enter Tryz.func101, Tryz.ntmps101
          go_wp2_with fail
          refine (specNamesOf k _).mono ?_
          rw [HN.out]
          rintro e w1 ⟨rfl, rfl⟩
          go_wp2_with fail
          refine (specAreVars _ _ ss _ hlen hws (by simpa using hr1)).mono ?_
          rw [HG.out]
          rintro e w2 ⟨rfl, rfl⟩
          go_wp2
          go_ret
          exact ⟨rfl, hB1⟩
  · cases hg : goodVars ss with
    | false =>
      rw [show stmtB ss k sa sb = false from by simp [stmtB, operandB, hg]]
      have HN := Lib.hid hn
      have HG := Lib.hid hg
      clear hn hg
      go_enter Tryz.func101, Tryz.ntmps101
      go_wp2_with fail
      refine (specNamesOf k _).mono ?_
      rw [HN.out]
      rintro e w1 ⟨rfl, rfl⟩
      go_wp2_with fail
      refine (specAreVars _ _ ss _ hlen hws (by simpa using hr1)).mono ?_
      rw [HG.out]
      rintro e w2 ⟨rfl, rfl⟩
      go_wp2
      go_ret
      exact ⟨rfl, hB1⟩
    | true =>
      cases hb : sb.toList.isEmpty with
      | false =>
        rw [show stmtB ss k sa sb = false from by simp [stmtB, operandB, hn, hg, hb]]
        have HN := Lib.hid hn
        have HG := Lib.hid hg
        clear hn hg
        go_enter Tryz.func101, Tryz.ntmps101
        go_wp2_with fail
        refine (specNamesOf k _).mono ?_
        rw [HN.out]
        rintro e w1 ⟨rfl, rfl⟩
        go_wp2_with fail
        refine (specAreVars _ _ ss _ hlen hws (by simpa using hr1)).mono ?_
        rw [HG.out]
        rintro e w2 ⟨rfl, rfl⟩
        go_wp2
        go_ret
        exact ⟨rfl, hB1⟩
      | true =>
        cases hp : decide (0 ≤ place ss sa) with
        | false =>
          rw [show stmtB ss k sa sb = false from by simp [stmtB, operandB, hn, hg, hb, hp]]
          have HN := Lib.hid hn
          have HG := Lib.hid hg
          clear hn hg
          go_enter Tryz.func101, Tryz.ntmps101
          go_wp2_with fail
          refine (specNamesOf k _).mono ?_
          rw [HN.out]
          rintro e w1 ⟨rfl, rfl⟩
          go_wp2_with fail
          refine (specAreVars _ _ ss _ hlen hws (by simpa using hr1)).mono ?_
          rw [HG.out]
          rintro e w2 ⟨rfl, rfl⟩
          go_wp2_with fail
          refine (specIndexOf _ _ ss sa _ hlen (by simpa using hr1)).mono ?_
          rintro e w2 ⟨rfl, rfl⟩
          go_wp2
          go_ret
          exact ⟨rfl, hB1⟩
        | true =>
          rw [show stmtB ss k sa sb = true from by simp [stmtB, operandB, hn, hg, hb, hp]]
          have HN := Lib.hid hn
          have HG := Lib.hid hg
          clear hn hg
          go_enter Tryz.func101, Tryz.ntmps101
          go_wp2_with fail
          refine (specNamesOf k _).mono ?_
          rw [HN.out]
          rintro e w1 ⟨rfl, rfl⟩
          go_wp2_with fail
          refine (specAreVars _ _ ss _ hlen hws (by simpa using hr1)).mono ?_
          rw [HG.out]
          rintro e w2 ⟨rfl, rfl⟩
          go_wp2_with fail
          refine (specIndexOf _ _ ss sa _ hlen (by simpa using hr1)).mono ?_
          rintro e w2 ⟨rfl, rfl⟩
          go_wp2
          go_ret
          exact ⟨rfl, hB1⟩
  · cases hg : goodVars ss with
    | false =>
      rw [show stmtB ss k sa sb = false from by simp [stmtB, operandB, hg]]
      have HN := Lib.hid hn
      have HG := Lib.hid hg
      clear hn hg
      go_enter Tryz.func101, Tryz.ntmps101
      go_wp2_with fail
      refine (specNamesOf k _).mono ?_
      rw [HN.out]
      rintro e w1 ⟨rfl, rfl⟩
      go_wp2_with fail
      refine (specAreVars _ _ ss _ hlen hws (by simpa using hr1)).mono ?_
      rw [HG.out]
      rintro e w2 ⟨rfl, rfl⟩
      go_wp2
      go_ret
      exact ⟨rfl, hB1⟩
    | true =>
      cases hp : decide (0 ≤ place ss sa) with
      | false =>
        rw [show stmtB ss k sa sb = false from by simp [stmtB, operandB, hn, hg, hp]]
        have HN := Lib.hid hn
        have HG := Lib.hid hg
        clear hn hg
        go_enter Tryz.func101, Tryz.ntmps101
        go_wp2_with fail
        refine (specNamesOf k _).mono ?_
        rw [HN.out]
        rintro e w1 ⟨rfl, rfl⟩
        go_wp2_with fail
        refine (specAreVars _ _ ss _ hlen hws (by simpa using hr1)).mono ?_
        rw [HG.out]
        rintro e w2 ⟨rfl, rfl⟩
        go_wp2_with fail
        refine (specIndexOf _ _ ss sa _ hlen (by simpa using hr1)).mono ?_
        rintro e w2 ⟨rfl, rfl⟩
        go_wp2
        go_ret
        exact ⟨rfl, hB1⟩
      | true =>
        rw [show stmtB ss k sa sb = decide (0 ≤ place ss sb) from by simp [stmtB, operandB, hn, hg, hp]]
        have HN := Lib.hid hn
        have HG := Lib.hid hg
        clear hn hg
        go_enter Tryz.func101, Tryz.ntmps101
        go_wp2_with fail
        refine (specNamesOf k _).mono ?_
        rw [HN.out]
        rintro e w1 ⟨rfl, rfl⟩
        go_wp2_with fail
        refine (specAreVars _ _ ss _ hlen hws (by simpa using hr1)).mono ?_
        rw [HG.out]
        rintro e w2 ⟨rfl, rfl⟩
        go_wp2_with fail
        refine (specIndexOf _ _ ss sa _ hlen (by simpa using hr1)).mono ?_
        rintro e w2 ⟨rfl, rfl⟩
        go_wp2_with fail
        refine (specIndexOf _ _ ss sb _ hlen (by simpa using hr1)).mono ?_
        rintro e w2 ⟨rfl, rfl⟩
        go_wp2
        go_ret
        exact ⟨rfl, hB1⟩
end Go.Proofs.YtpmmjaceehlpiaaGreatDoor
/-
  What a statement makes of a heap, in plain words: a code, the variables' cells, the next cells (before lost cells are looked for). A heap whose rows are written: its variables' row, its cells' row.
-/
namespace Go.Proofs.YtpmmjaceehlpiaaGreatDoor
open Go Go.RowKit Go.ChangeShapes Go.WideShapes Go.ChangeAt

theorem three_boxL (w : World) (xs ys us : List Value) (t t' t'' : TypeId) : ∃ W0, ((w.alloc (.cells xs.toArray t)).alloc (.cells ys.toArray t')).alloc (.cells us.toArray t'') = W0 ∧ Below w.heap.size w W0 ∧ BoxL W0 w.heap.size xs ∧ BoxL W0 (w.heap.size + 1) ys ∧ BoxL W0 (w.heap.size + 2) us := by
  obtain ⟨W1, h1, hb1, b1, b2⟩ := two_boxL w xs ys t t'
  have h3 := BoxL.new W1 us t''
  have hs : W1.heap.size = w.heap.size + 2 := by rw [← h1]; simp
  have hb := (Below.refl W1.heap.size W1).alloc (Nat.le_refl _) (.cells us.toArray t'')
  rw [hs] at h3
  refine ⟨_, rfl, ?_, ?_, ?_, ?_⟩
  · rw [h1]; exact hb1.trans (hb.mono hb1.size)
  · rw [h1]; exact b1.below hb
  · rw [h1]; exact b2.below hb
  · rw [h1]; exact h3
abbrev Act3 := Int × List Int × List Int
def badC (k : Int) : Act3 := (k, [], [])
/-- The cells behind a freed one move up by one. -/
def lowC (c x : Int) : Int := if c < x then x - 1 else x
def freeS (pa : Nat) (vs zs : List Int) : Act3 :=
  if vs.getD pa (-1) = -1 then badC 2
  else if vs.getD pa (-1) ∈ vs.set pa (-1) ∨ vs.getD pa (-1) ∈ zs then badC 5
  else (0, (vs.set pa (-1)).map (lowC (vs.getD pa (-1))), (zs.eraseIdx (vs.getD pa (-1)).toNat).map (lowC (vs.getD pa (-1))))
def linkS (pa pb : Nat) (vs zs : List Int) : Act3 :=
  if vs.getD pa (-1) = -1 then badC 2
  else if vs.getD pa (-1) ∈ followed zs (vs.getD pb (-1)) then badC 3
  else (0, vs, zs.set (vs.getD pa (-1)).toNat (vs.getD pb (-1)))
def doS (k : Int) (pa pb : Nat) (vs zs : List Int) : Act3 :=
  if k = 1 then (0, vs, zs)
  else if k = 2 then (0, vs.set pa (-1), zs)
  else if k = 3 then if zs.length = 6 then badC 6 else (0, vs.set pa (zs.length : Int), zs ++ [-1])
  else if k = 4 then (0, vs.set pa (vs.getD pb (-1)), zs)
  else if k = 5 then if vs.getD pb (-1) = -1 then badC 2 else (0, vs.set pa (nextC zs (vs.getD pb (-1))), zs)
  else if k = 6 then if vs.getD pa (-1) = -1 then badC 2 else (0, vs, zs.set (vs.getD pa (-1)).toNat (-1))
  else if k = 7 then linkS pa pb vs zs
  else if k = 8 then freeS pa vs zs
  else if k = 9 then if vs.getD pa (-1) = -1 then (0, vs, zs) else badC 1
  else if k = 10 then if vs.getD pa (-1) = -1 then badC 1 else (0, vs, zs)
  else if k = 11 then if vs.getD pa (-1) = vs.getD pb (-1) then (0, vs, zs) else badC 1
  else if vs.getD pa (-1) = vs.getD pb (-1) then badC 1 else (0, vs, zs)
/-- A fault gives no heap; no list grows by more than one. -/
def Fine (vs zs : List Int) (r : Act3) : Prop := (r.1 ≠ 0 → r.2 = ([], [])) ∧ r.2.1.length ≤ vs.length ∧ r.2.2.length ≤ zs.length + 1
theorem fine_ite {vs zs : List Int} {c : Prop} [Decidable c] {x y : Act3} (h1 : Fine vs zs x) (h2 : Fine vs zs y) : Fine vs zs (if c then x else y) := by
  split
  · exact h1
  · exact h2
theorem fine_bad {vs zs : List Int} (k : Int) : Fine vs zs (badC k) := ⟨fun _ => rfl, Nat.zero_le _, Nat.zero_le _⟩
theorem fine_ok {vs zs vs' zs' : List Int} (h1 : vs'.length ≤ vs.length) (h2 : zs'.length ≤ zs.length + 1) : Fine vs zs (0, vs', zs') := ⟨fun h => absurd rfl h, h1, h2⟩
theorem doS_fine (k : Int) (pa pb : Nat) (vs zs : List Int) : Fine vs zs (doS k pa pb vs zs) := by
  unfold doS linkS freeS
  repeat' (first | exact fine_bad _ | apply fine_ite)
  all_goals refine fine_ok ?_ ?_
  all_goals first | (simp; done) | (simp only [List.length_map, List.length_eraseIdx]; split <;> omega)
theorem doS_bad {k : Int} {pa pb : Nat} {vs zs : List Int} (h : (doS k pa pb vs zs).1 ≠ 0) : doS k pa pb vs zs = badC (doS k pa pb vs zs).1 := Prod.ext rfl ((doS_fine k pa pb vs zs).1 h)

/-- What Exec comes to. -/
def execS (ss : List ByteArray) (k : Int) (a b : ByteArray) (vs zs : List Int) : Act3 :=
  if stmtB ss k a b = true ∧ heapB (ss.length : Int) vs zs = true then
    if (doS k (place ss a).toNat (place ss b).toNat vs zs).1 = 0 then
      if leakB (doS k (place ss a).toNat (place ss b).toNat vs zs).2.1 (doS k (place ss a).toNat (place ss b).toNat vs zs).2.2 = true then badC 4
      else (0, canonVs (doS k (place ss a).toNat (place ss b).toNat vs zs).2.1 (doS k (place ss a).toNat (place ss b).toNat vs zs).2.2, canonNs (doS k (place ss a).toNat (place ss b).toNat vs zs).2.1 (doS k (place ss a).toNat (place ss b).toNat vs zs).2.2)
    else badC (doS k (place ss a).toNat (place ss b).toNat vs zs).1
  else badC 7

/-- What a test of a heap says of its parts. -/
theorem heapB_parts {n : Int} {vs zs : List Int} (h : heapB n vs zs = true) : (1 ≤ vs.length ∧ vs.length ≤ 4 ∧ (vs.length : Int) = n) ∧ zs.length ≤ 6 ∧ goodB zs vs = true ∧ goodB zs zs = true ∧ acyc zs = true := by
  simp only [heapB, Bool.and_eq_true, decide_eq_true_eq] at h
  obtain ⟨⟨⟨h1, hg⟩, ha⟩, _⟩ := h
  exact ⟨⟨by omega, by omega, h1.2.2.1⟩, h1.2.2.2, (goodH_parts hg).1, (goodH_parts hg).2, ha⟩

theorem getD_at {l : List Int} {k : Nat} (h : k < l.length) : l.getD k (-1) = l[k] := by simp [h]

section
variable {lo hi : Nat} {W W' : World} {a b : Option Addr} {ca cb : Nat} {vs zs : List Int}
theorem HeapIn.setV {g k : Nat} (x : Int) (h : HeapIn lo hi W (some ⟨g, 0, none⟩) ca b cb (intVals vs) (intVals zs)) : HeapIn lo hi (W.setCell ⟨g, k, none⟩ (.int .i64 x)) (some ⟨g, 0, none⟩) ca b cb (intVals (vs.set k x)) (intVals zs) := by
  have ts := turn_set W g k (.int .i64 x)
  have el : (vs.set k x).length = vs.length := List.length_set
  have em : intVals (vs.set k x) = (intVals vs).set k (.int .i64 x) := by simp [intVals, List.map_set]
  have hv5 := h.v
  have hz5 := h.z
  have hap := h.apart
  have hap' := hap g (by rw [intVals_length]; rfl)
  refine ⟨?_, ⟨Nat.le_trans hz5.1 ts.size, own_other hz5.2.1 (grown_cell (i := k) (u := .int .i64 x) (grown_self W (some g))) (fun j hj e => hap' (e ▸ hj)), hz5.2.2⟩, ?_⟩
  · rw [intVals_length, el, em]
    rw [intVals_length] at hv5
    exact hv5.again (Nat.le_trans hv5.1 ts.size) (hv5.2.1.stored k (.int .i64 x)).1
  · rw [intVals_length, el]
    rw [intVals_length] at hap
    exact hap
theorem HeapIn.setZ {g k : Nat} (x : Int) (h : HeapIn lo hi W a ca (some ⟨g, 0, none⟩) cb (intVals vs) (intVals zs)) : HeapIn lo hi (W.setCell ⟨g, k, none⟩ (.int .i64 x)) a ca (some ⟨g, 0, none⟩) cb (intVals vs) (intVals (zs.set k x)) := by
  have ts := turn_set W g k (.int .i64 x)
  have el : (zs.set k x).length = zs.length := List.length_set
  have em : intVals (zs.set k x) = (intVals zs).set k (.int .i64 x) := by simp [intVals, List.map_set]
  have hv5 := h.v
  have hz5 := h.z
  have hap := h.apart
  refine ⟨⟨Nat.le_trans hv5.1 ts.size, own_other hv5.2.1 (grown_cell (i := k) (u := .int .i64 x) (grown_self W (some g))) (fun j hj e => hap j hj (by rw [intVals_length]; exact e.symm)), hv5.2.2⟩, ?_, ?_⟩
  · rw [intVals_length, el, em]
    rw [intVals_length] at hz5
    exact hz5.again (Nat.le_trans hz5.1 ts.size) (hz5.2.1.stored k (.int .i64 x)).1
  · rw [intVals_length, intVals_length, el]
    rw [intVals_length, intVals_length] at hap
    exact hap
/-- An own row of at least one cell has a block. -/
theorem OwnIn.block_ {e n c : Nat} {xs : List Value} (h : OwnIn lo hi W e 1 (.slice a n c) n xs) (hn : 0 < n) : ∃ g, a = some ⟨g, 0, none⟩ ∧ lo ≤ g ∧ g < hi := by
  rcases h.2.1.2 with ⟨_, h0⟩ | ⟨g, _, _, hv, hg, _⟩
  · omega
  · injection hv with hv _ _
    exact ⟨g, hv, hg, h.2.2 g (by rw [hv]; rfl)⟩
theorem OwnIn.cellInt {e c g : Nat} {xs : List Int} (h : OwnIn lo hi W e 1 (.slice (some ⟨g, 0, none⟩) (intVals xs).length c) (intVals xs).length (intVals xs)) (k : Nat) (hk : k < xs.length) : W.cell? ⟨g, k, none⟩ = some (.int .i64 xs[k]) := by
  have h1 := h.2.1.cells (g := g) rfl k _ (intVals_at xs k hk)
  rw [add_plain] at h1
  simpa using h1
theorem OwnIn.frozen_ {e n c g : Nat} {xs : List Value} (h : OwnIn lo hi W e 1 (.slice (some ⟨g, 0, none⟩) n c) n xs) (k : Nat) : W.frozen? ⟨g, k, none⟩ = false := h.2.1.frozenAt k
end

/-- The heap's blocks. -/
def blocksH (a b : Option Addr) (n ca m cb : Nat) (k : Nat) : Prop := (Value.slice a n ca).ownBlock = some k ∨ (Value.slice b m cb).ownBlock = some k
theorem blocksH_any {a b : Option Addr} {n ca m cb n' ca' m' cb' k : Nat} (h : blocksH a b n ca m cb k) : blocksH a b n' ca' m' cb' k := by
  cases a <;> cases b <;> exact h
/-- Only blocks from lo on, below hi, for which S holds, may have turned. -/
structure TurnB (lo hi : Nat) (S : Nat → Prop) (w w' : World) : Prop where
  t : Turn lo hi w w'
  o : ∀ k, k < w.heap.size → ¬ S k → w'.heap[k]? = w.heap[k]?
section
variable {lo hi : Nat} {S : Nat → Prop} {w W W' : World}
theorem TurnB.size (h : TurnB lo hi S w W) : w.heap.size ≤ W.heap.size := h.t.size
theorem TurnB.of_below (h : Below w.heap.size w W) : TurnB lo hi S w W := ⟨Turn.of_below h, fun k hk _ => h.block k hk⟩
theorem TurnB.trans (h : TurnB lo hi S w W) (k : TurnB lo hi S W W') : TurnB lo hi S w W' := ⟨h.t.trans k.t, fun j hj hd => (k.o j (Nat.lt_of_lt_of_le hj h.size) hd).trans (h.o j hj hd)⟩
/-- What is written at blocks that are new to w. -/
theorem TurnB.setNew (t : TurnB lo hi S w W) {Q i : Nat} {u : Value} (hQ : w.heap.size ≤ Q) : TurnB lo hi S w (W.setCell ⟨Q, i, none⟩ u) :=
  ⟨⟨t.t.os, t.t.tape, t.t.output, by simpa using t.size, fun k hk hd => (Below.heap_setCell _ _ _ _ (by show k ≠ Q; omega)).trans (t.t.block k hk hd)⟩,
    fun k hk hd => (Below.heap_setCell _ _ _ _ (by show k ≠ Q; omega)).trans (t.o k hk hd)⟩
theorem TurnB.draws (h : TurnB lo hi S w W) : TurnB lo hi S w W.drew := h.trans (TurnB.of_below (Below.drew (Below.refl _ _)))
theorem TurnB.of_one {q : Nat} (t : Turn q (q + 1) w W) (h1 : lo ≤ q) (h2 : q < hi) (hS : S q) : TurnB lo hi S w W :=
  ⟨t.mono h1 (by omega), fun k hk hd => t.block k hk (by have : k ≠ q := fun e => hd (e ▸ hS); omega)⟩
theorem turnB_at {g k : Nat} (u : Value) (h1 : lo ≤ g) (h2 : g < hi) (hS : S g) : TurnB lo hi S w (w.setCell ⟨g, k, none⟩ u) := TurnB.of_one (turn_set w g k u) h1 h2 hS
theorem TurnB.of_grown {r : Option Nat} (h : w.grownBy W r) (hr : ∀ k, r = some k → lo ≤ k ∧ k < hi ∧ S k) : TurnB lo hi S w W :=
  ⟨Turn.of_grown h fun k hk => ⟨(hr k hk).1, (hr k hk).2.1⟩, fun k hk hd => h.block k hk fun e => hd (hr k e.symm).2.2⟩
theorem BoxL.turnB {g : Nat} {xs : List Value} (h : BoxL w g xs) (t : TurnB lo hi S w W) (hd : ¬ S g) : BoxL W g xs :=
  ⟨fun i x hx => (World.cell?_of_block (t.o g h.lt hd)).trans (h.c i x hx), fun o => (World.frozen?_of_block (t.o g h.lt hd)).trans (h.f o), Nat.lt_of_lt_of_le h.lt t.size⟩
end

/-- A statement's action on a heap that may be written: what it answers, and that only the heap's blocks (S) have turned. -/
def Acted (lo hi : Nat) (S : Nat → Prop) (r : Act3) (w : World) (e : Ending) (w' : World) : Prop :=
  ∃ a ca b cb, e = .returned (.tuple #[heV a r.2.1.length ca b r.2.2.length cb, .int .i64 r.1]) ∧ HeapIn lo w'.heap.size w' a ca b cb (intVals r.2.1) (intVals r.2.2) ∧ TurnB lo hi S w w' ∧ (∀ k, blocksH a b r.2.1.length ca r.2.2.length cb k → S k ∨ w.heap.size ≤ k)
theorem heapIn_nil {lo hi : Nat} {W : World} (h : hi ≤ W.heap.size) : HeapIn lo hi W none 0 none 0 (intVals []) (intVals []) :=
  ⟨⟨h, World.ownsRow_nil _ _ _ _, fun k hk => by cases hk⟩, ⟨h, World.ownsRow_nil _ _ _ _, fun k hk => by cases hk⟩, fun j hj => by cases hj⟩
theorem acted_bad {lo hi : Nat} {S : Nat → Prop} {k : Int} {w w' : World} (h : TurnB lo hi S w w') : Acted lo hi S (badC k) w (.returned (.tuple #[heV none 0 0 none 0 0, .int .i64 k])) w' :=
  ⟨none, 0, none, 0, rfl, heapIn_nil (Nat.le_refl _), h, fun k hk => by rcases hk with hk | hk <;> cases hk⟩
end Go.Proofs.YtpmmjaceehlpiaaGreatDoor
/-
  The program's actions on a heap that may be written, one a kind of statement.
-/
namespace Go.Proofs.YtpmmjaceehlpiaaGreatDoor
open Go Go.RowKit Go.ChangeShapes Go.WideShapes Go.ChangeAt

theorem acted_ok {lo hi : Nat} {S : Nat → Prop} {w W1 w' : World} {a b : Option Addr} {ca cb : Nat} {vs zs : List Int} (h : HeapIn lo hi W1 a ca b cb (intVals vs) (intVals zs)) (t : TurnB lo hi S w W1) (hb : Below W1.heap.size W1 w') (hS : ∀ k, blocksH a b vs.length ca zs.length cb k → S k ∨ w.heap.size ≤ k) :
    Acted lo hi S (0, vs, zs) w (.returned (.tuple #[heV a vs.length ca b zs.length cb, .int .i64 0])) w' :=
  ⟨a, ca, b, cb, rfl, (h.below hb).mono (Nat.le_refl _) (Nat.le_trans h.v.1 hb.size) (Nat.le_refl _), t.trans (TurnB.of_below hb), hS⟩
theorem acted_to {lo hi n m : Nat} {S : Nat → Prop} {w W1 w' : World} {a b : Option Addr} {ca cb : Nat} {vs zs : List Int} (h : HeapIn lo hi W1 a ca b cb (intVals vs) (intVals zs)) (t : TurnB lo hi S w W1) (hn : vs.length = n) (hm : zs.length = m) (hb : Below W1.heap.size W1 w') (hS : ∀ k, blocksH a b vs.length ca zs.length cb k → S k ∨ w.heap.size ≤ k := by intro k hk; exact Or.inl (blocksH_any hk)) :
    Acted lo hi S (0, vs, zs) w (.returned (.tuple #[heV a n ca b m cb, .int .i64 0])) w' := by
  subst hn hm
  exact acted_ok h t hb hS
theorem two_below (w : World) (x y : Obj) : Below w.heap.size w ((w.alloc x).alloc y) := ((Below.refl _ _).alloc (Nat.le_refl _) _).alloc (by simp) _
theorem getD_cell {l : List Int} {k : Nat} (h : k < l.length) : l.getD k (-1) = l[k] := by simp [h]
/-- A variable's cell, if it is one. -/
theorem var_cell {zs vs : List Int} {k : Nat} (hk : k < vs.length) (hg : goodB zs vs = true) (hn : vs[k] ≠ -1) : ∃ c : Nat, vs[k] = (c : Int) ∧ c < zs.length := by
  rcases goodB_at hg (List.getElem_mem hk) with h | h
  · exact absurd h hn
  · exact isC_nat h

theorem HeapIn.setNot {lo hi : Nat} {W : World} {a b : Option Addr} {ca cb : Nat} {vs zs : List Int} {Q i : Nat} {u : Value} (h : HeapIn lo hi W a ca b cb (intVals vs) (intVals zs)) (hne : ∀ k, blocksH a b vs.length ca zs.length cb k → k ≠ Q) :
    HeapIn lo hi (W.setCell ⟨Q, i, none⟩ u) a ca b cb (intVals vs) (intVals zs) := by
  have hv := h.v
  have hz := h.z
  have hap := h.apart
  rw [intVals_length, intVals_length] at hap
  rw [intVals_length] at hv hz
  refine ⟨?_, ?_, ?_⟩
  · rw [intVals_length]
    exact ⟨by simpa using hv.1, own_other hv.2.1 (grown_cell (grown_self W (some Q))) (fun k hk e => hne k (.inl hk) (Option.some.inj e)), hv.2.2⟩
  · rw [intVals_length]
    exact ⟨by simpa using hz.1, own_other hz.2.1 (grown_cell (grown_self W (some Q))) (fun k hk e => hne k (.inr hk) (Option.some.inj e)), hz.2.2⟩
  · rw [intVals_length, intVals_length]
    exact hap
theorem acted_of {lo hi n m : Nat} {S : Nat → Prop} {w w' : World} {a b : Option Addr} {ca cb : Nat} {vs zs : List Int} (hn : vs.length = n) (hm : zs.length = m) (h : HeapIn lo w'.heap.size w' a ca b cb (intVals vs) (intVals zs)) (t : TurnB lo hi S w w') (hS : ∀ k, blocksH a b vs.length ca zs.length cb k → S k ∨ w.heap.size ≤ k := by intro k hk; exact Or.inl (blocksH_any hk)) :
    Acted lo hi S (0, vs, zs) w (.returned (.tuple #[heV a n ca b m cb, .int .i64 0])) w' := by
  subst hn hm
  exact ⟨a, ca, b, cb, rfl, h, t, hS⟩
theorem HeapIn.blocks {lo hi : Nat} {W : World} {a b : Option Addr} {ca cb : Nat} {vs zs : List Int} (h : HeapIn lo hi W a ca b cb (intVals vs) (intVals zs)) : ∀ k, blocksH a b vs.length ca zs.length cb k → lo ≤ k ∧ k < hi := by
  have hv := h.v
  have hz := h.z
  rw [intVals_length] at hv hz
  rintro k (e | e)
  · exact ⟨(hv.2.1.lt k e).1, hv.2.2 k e⟩
  · exact ⟨(hz.2.1.lt k e).1, hz.2.2 k e⟩
/-- The answer is written into a box that is new to w. -/
theorem heap_box {lo hi Q : Nat} {S : Nat → Prop} {w W2 : World} {a b : Option Addr} {ca cb : Nat} {vs zs : List Int} {u v : Value} (h2 : HeapIn lo hi W2 a ca b cb (intVals vs) (intVals zs)) (T2 : TurnB lo hi S w W2) (hhi : hi ≤ w.heap.size) (hQ : w.heap.size ≤ Q) :
    HeapIn lo ((W2.setCell ⟨Q, 0, none⟩ u).setCell ⟨Q, 1, none⟩ v).heap.size ((W2.setCell ⟨Q, 0, none⟩ u).setCell ⟨Q, 1, none⟩ v) a ca b cb (intVals vs) (intVals zs) ∧ TurnB lo hi S w ((W2.setCell ⟨Q, 0, none⟩ u).setCell ⟨Q, 1, none⟩ v) := by
  have hbl := h2.blocks
  have hs : ((W2.setCell ⟨Q, 0, none⟩ u).setCell ⟨Q, 1, none⟩ v).heap.size = W2.heap.size := by simp
  refine ⟨?_, (T2.setNew hQ).setNew hQ⟩
  rw [hs]
  exact ((h2.setNot (Q := Q) fun k hk => by have := hbl k hk; omega).setNot (Q := Q) fun k hk => by have := hbl k hk; omega).mono (Nat.le_refl _) h2.v.1 (by rw [hs]; exact Nat.le_refl _)
theorem HeapIn.draws {lo hi : Nat} {W : World} {a b : Option Addr} {ca cb : Nat} {vs zs : List Value} (h : HeapIn lo hi W a ca b cb vs zs) : HeapIn lo hi W.drew a ca b cb vs zs := h.below (Below.drew (Below.refl _ _))
set_option maxHeartbeats 800000 in
theorem implDoSkip {lo hi : Nat} {a b : Option Addr} {ca cb : Nat} {vs zs : List Int} (x y : Int) {w : World} (h : HeapIn lo hi w a ca b cb (intVals vs) (intVals zs)) :
    Calls Tryz.prog 147 #[heV a vs.length ca b zs.length cb, .int .i64 x, .int .i64 y] w (Acted lo hi (blocksH a b vs.length ca zs.length cb) (0, vs, zs) w) := by
  go_enter Tryz.func147, Tryz.ntmps147
  go_wp2
  refine bodyPost_ret (v := .tuple #[heV a vs.length ca b zs.length cb, .int .i64 0]) (by simp [results, Tryz.results147, go_sem]) rfl ?_
  refine acted_to h (TurnB.of_below (Below.refl _ _)) rfl rfl ?_
  repeat (first | with_reducible exact Below.refl _ _ | refine Below.drew ?_ | refine Below.alloc ?_ (by simp <;> omega) _ | refine Below.setCell ?_ (by simp <;> omega) _)

set_option maxHeartbeats 800000 in
theorem implDoNull {lo hi pa : Nat} {a b : Option Addr} {ca cb : Nat} {vs zs : List Int} (y : Int) {w : World} (h : HeapIn lo hi w a ca b cb (intVals vs) (intVals zs)) (hp : pa < vs.length) :
    Calls Tryz.prog 148 #[heV a vs.length ca b zs.length cb, .int .i64 pa, .int .i64 y] w (Acted lo hi (blocksH a b vs.length ca zs.length cb) (0, vs.set pa (-1), zs) w) := by
  obtain ⟨g, rfl, hg1, hg2⟩ := h.v.block_ (by rw [intVals_length]; omega)
  have hhi := h.v.1
  have n0 : ¬ w.heap.size = g := by omega
  have n1 : ¬ w.heap.size + 1 = g := by omega
  have n2 : g < w.heap.size := by omega
  have n3 : g < w.heap.size + 1 := by omega
  have hold := h.v.cellInt pa hp
  have hfr := h.v.frozen_ pa
  go_enter Tryz.func148, Tryz.ntmps148
  go_wp2
  refine bodyPost_ret (v := .tuple #[heV (some ⟨g, 0, none⟩) vs.length ca b zs.length cb, .int .i64 0]) (by simp [results, Tryz.results148, go_sem]) rfl ?_
  refine acted_to (h.setV (k := pa) (-1)) (turnB_at _ hg1 hg2 (.inl rfl)) List.length_set rfl ?_
  repeat (first | with_reducible exact Below.refl _ _ | refine Below.drew ?_ | refine Below.alloc ?_ (by simp <;> omega) _ | refine Below.setCell ?_ (by simp <;> omega) _)

set_option maxHeartbeats 800000 in
theorem implDoCopy {lo hi pa pb : Nat} {a b : Option Addr} {ca cb : Nat} {vs zs : List Int} {w : World} (h : HeapIn lo hi w a ca b cb (intVals vs) (intVals zs)) (hp : pa < vs.length) (hq : pb < vs.length) :
    Calls Tryz.prog 150 #[heV a vs.length ca b zs.length cb, .int .i64 pa, .int .i64 pb] w (Acted lo hi (blocksH a b vs.length ca zs.length cb) (0, vs.set pa (vs.getD pb (-1)), zs) w) := by
  rw [getD_cell hq]
  obtain ⟨g, rfl, hg1, hg2⟩ := h.v.block_ (by rw [intVals_length]; omega)
  have hhi := h.v.1
  have n0 : ¬ w.heap.size = g := by omega
  have n1 : ¬ w.heap.size + 1 = g := by omega
  have n2 : g < w.heap.size := by omega
  have n3 : g < w.heap.size + 1 := by omega
  have hold := h.v.cellInt pa hp
  have hsrc := h.v.cellInt pb hq
  have hfr := h.v.frozen_ pa
  go_enter Tryz.func150, Tryz.ntmps150
  go_wp2
  go_region
  all_goals
    go_wp2
    refine bodyPost_ret (v := .tuple #[heV (some ⟨g, 0, none⟩) vs.length ca b zs.length cb, .int .i64 0]) (by simp [results, Tryz.results150, go_sem]) rfl ?_
    refine acted_to (h.setV (k := pa) vs[pb]) (turnB_at _ hg1 hg2 (.inl rfl)) List.length_set rfl ?_
    repeat (first | with_reducible exact Below.refl _ _ | refine Below.drew ?_ | refine Below.alloc ?_ (by simp <;> omega) _ | refine Below.setCell ?_ (by simp <;> omega) _)

set_option maxHeartbeats 800000 in
theorem implDoNext {lo hi pa pb : Nat} {a b : Option Addr} {ca cb : Nat} {vs zs : List Int} {w : World} (h : HeapIn lo hi w a ca b cb (intVals vs) (intVals zs)) (hp : pa < vs.length) (hq : pb < vs.length) (hgv : goodB zs vs = true) :
    Calls Tryz.prog 151 #[heV a vs.length ca b zs.length cb, .int .i64 pa, .int .i64 pb] w (Acted lo hi (blocksH a b vs.length ca zs.length cb) (if vs.getD pb (-1) = -1 then badC 2 else (0, vs.set pa (nextC zs (vs.getD pb (-1))), zs)) w) := by
  rw [getD_cell hq]
  obtain ⟨g, rfl, hg1, hg2⟩ := h.v.block_ (by rw [intVals_length]; omega)
  have hhi := h.v.1
  have n0 : ¬ w.heap.size = g := by omega
  have n1 : ¬ w.heap.size + 1 = g := by omega
  have n2 : g < w.heap.size := by omega
  have n3 : g < w.heap.size + 1 := by omega
  have hold := h.v.cellInt pa hp
  have hsrc := h.v.cellInt pb hq
  have hfr := h.v.frozen_ pa
  by_cases hn : vs[pb] = -1
  · rw [if_pos hn]
    rw [hn] at hsrc
    clear hn
    go_enter Tryz.func151, Tryz.ntmps151
    go_wp2
    refine bodyPost_ret (v := .tuple #[heV none 0 0 none 0 0, .int .i64 2]) (by simp [results, Tryz.results151, go_sem]) rfl ?_
    refine acted_bad (TurnB.of_below ?_)
    repeat (first | with_reducible exact Below.refl _ _ | refine Below.drew ?_ | refine Below.alloc ?_ (by simp <;> omega) _ | refine Below.setCell ?_ (by simp <;> omega) _)
  · rw [if_neg hn]
    obtain ⟨c, hc, hcl⟩ := var_cell hq hgv hn
    have hne : ((c : Int) == -1) = false := by simp only [beq_eq_false_iff_ne, ne_eq]; omega
    rw [hc] at hsrc ⊢
    rw [nextC_at hcl]
    clear hn
    obtain ⟨q, rfl, hq1, hq2⟩ := h.z.block_ (by rw [intVals_length]; omega)
    have m0 : ¬ w.heap.size = q := by omega
    have m1 : ¬ w.heap.size + 1 = q := by omega
    have m2 : q < w.heap.size := by omega
    have m3 : q < w.heap.size + 1 := by omega
    have hnx := h.z.cellInt c hcl
    go_enter Tryz.func151, Tryz.ntmps151
    go_wp2
    go_region
    all_goals
      go_wp2
      refine bodyPost_ret (v := .tuple #[heV (some ⟨g, 0, none⟩) vs.length ca (some ⟨q, 0, none⟩) zs.length cb, .int .i64 0]) (by simp [results, Tryz.results151, go_sem]) rfl ?_
      refine acted_to (h.setV (k := pa) zs[c]) (turnB_at _ hg1 hg2 (.inl rfl)) List.length_set rfl ?_
      repeat (first | with_reducible exact Below.refl _ _ | refine Below.drew ?_ | refine Below.alloc ?_ (by simp <;> omega) _ | refine Below.setCell ?_ (by simp <;> omega) _)

set_option maxHeartbeats 800000 in
theorem implDoCut {lo hi pa : Nat} {a b : Option Addr} {ca cb : Nat} {vs zs : List Int} (y : Int) {w : World} (h : HeapIn lo hi w a ca b cb (intVals vs) (intVals zs)) (hp : pa < vs.length) (hgv : goodB zs vs = true) :
    Calls Tryz.prog 152 #[heV a vs.length ca b zs.length cb, .int .i64 pa, .int .i64 y] w (Acted lo hi (blocksH a b vs.length ca zs.length cb) (if vs.getD pa (-1) = -1 then badC 2 else (0, vs, zs.set (vs.getD pa (-1)).toNat (-1))) w) := by
  rw [getD_cell hp]
  obtain ⟨g, rfl, hg1, hg2⟩ := h.v.block_ (by rw [intVals_length]; omega)
  have hhi := h.v.1
  have n0 : ¬ w.heap.size = g := by omega
  have n1 : ¬ w.heap.size + 1 = g := by omega
  have n2 : g < w.heap.size := by omega
  have n3 : g < w.heap.size + 1 := by omega
  have hsrc := h.v.cellInt pa hp
  by_cases hn : vs[pa] = -1
  · rw [if_pos hn]
    rw [hn] at hsrc
    clear hn
    go_enter Tryz.func152, Tryz.ntmps152
    go_wp2
    refine bodyPost_ret (v := .tuple #[heV none 0 0 none 0 0, .int .i64 2]) (by simp [results, Tryz.results152, go_sem]) rfl ?_
    refine acted_bad (TurnB.of_below ?_)
    repeat (first | with_reducible exact Below.refl _ _ | refine Below.drew ?_ | refine Below.alloc ?_ (by simp <;> omega) _ | refine Below.setCell ?_ (by simp <;> omega) _)
  · rw [if_neg hn]
    obtain ⟨c, hc, hcl⟩ := var_cell hp hgv hn
    have hne : ((c : Int) == -1) = false := by simp only [beq_eq_false_iff_ne, ne_eq]; omega
    rw [hc] at hsrc ⊢
    rw [Int.toNat_natCast]
    clear hn
    obtain ⟨q, rfl, hq1, hq2⟩ := h.z.block_ (by rw [intVals_length]; omega)
    have m0 : ¬ w.heap.size = q := by omega
    have m1 : ¬ w.heap.size + 1 = q := by omega
    have m2 : q < w.heap.size := by omega
    have m3 : q < w.heap.size + 1 := by omega
    have hold := h.z.cellInt c hcl
    have hfr := h.z.frozen_ c
    go_enter Tryz.func152, Tryz.ntmps152
    go_wp2
    go_region
    all_goals
      go_wp2
      refine bodyPost_ret (v := .tuple #[heV (some ⟨g, 0, none⟩) vs.length ca (some ⟨q, 0, none⟩) zs.length cb, .int .i64 0]) (by simp [results, Tryz.results152, go_sem]) rfl ?_
      refine acted_to (h.setZ (k := c) (-1)) (turnB_at _ hq1 hq2 (.inr rfl)) rfl List.length_set ?_
      repeat (first | with_reducible exact Below.refl _ _ | refine Below.drew ?_ | refine Below.alloc ?_ (by simp <;> omega) _ | refine Below.setCell ?_ (by simp <;> omega) _)

end Go.Proofs.YtpmmjaceehlpiaaGreatDoor
/-
  The program's action that frees a cell.
-/
namespace Go.Proofs.YtpmmjaceehlpiaaGreatDoor
open Go Go.RowKit Go.ChangeShapes Go.WideShapes Go.ChangeAt

/-- A list whose first j elements are done. -/
def mixL (f : Int → Int) (l : List Int) (j : Nat) : List Int := (l.take j).map f ++ l.drop j
theorem mixL_length (f : Int → Int) (l : List Int) (j : Nat) : (mixL f l j).length = l.length := by simp [mixL]; omega
theorem mixL_zero (f : Int → Int) (l : List Int) : mixL f l 0 = l := by simp [mixL]
theorem mixL_all (f : Int → Int) (l : List Int) : mixL f l l.length = l.map f := by simp [mixL]
theorem mixL_at (f : Int → Int) (l : List Int) {j : Nat} (h : j < l.length) (h' : j < (mixL f l j).length) : (mixL f l j)[j] = l[j] := by
  simp only [mixL]
  rw [List.getElem_append_right (by simp; omega)]
  simp only [List.length_map, List.length_take, List.getElem_drop]
  congr 1
  omega
theorem mixL_next (f : Int → Int) (l : List Int) {j : Nat} (h : j < l.length) : (mixL f l j).set j (f l[j]) = mixL f l (j + 1) := by
  have e : (l.drop j) = l[j] :: l.drop (j + 1) := List.drop_eq_getElem_cons h
  simp only [mixL]
  rw [e, take_next l j h, List.map_append, List.append_assoc, List.set_append_right _ _ (by simp; omega)]
  simp only [List.length_map, List.length_take]
  rw [show j - min j l.length = 0 by omega]
  rfl
theorem mixL_same (f : Int → Int) (l : List Int) {j : Nat} (h : j < l.length) (hf : f l[j] = l[j]) : mixL f l (j + 1) = mixL f l j := by
  rw [← mixL_next f l h, hf]
  have := mixL_at f l h (by rw [mixL_length]; exact h)
  conv => lhs; rw [← this]
  exact List.set_getElem_self _

/-- The cells' row lost a cell. -/
theorem HeapIn.lessZ {lo hi q k : Nat} {W W' : World} {a : Option Addr} {ca cb : Nat} {vs zs : List Int} (h : HeapIn lo hi W a ca (some ⟨q, 0, none⟩) cb (intVals vs) (intVals zs)) (hk : k < zs.length)
    (ho : OwnIn lo hi W' 3 1 (.slice (some ⟨q, 0, none⟩) (zs.length - 1) cb) (zs.length - 1) (intVals (zs.eraseIdx k))) (t : Turn q (q + 1) W W') : HeapIn lo hi W' a ca (some ⟨q, 0, none⟩) cb (intVals vs) (intVals (zs.eraseIdx k)) := by
  have hl : (zs.eraseIdx k).length = zs.length - 1 := by rw [List.length_eraseIdx, if_pos hk]
  have hv := h.v
  have hap := h.apart
  rw [intVals_length, intVals_length] at hap
  rw [intVals_length] at hv
  have hg : W.grownBy W' (some q) := ⟨t.os, t.tape, t.output, t.size, fun j hj hne => t.block j hj (by have : j ≠ q := fun e => hne (by rw [e]); omega)⟩
  refine ⟨?_, ?_, ?_⟩
  · rw [intVals_length]
    exact ⟨Nat.le_trans hv.1 t.size, own_other hv.2.1 hg (fun j hj e => hap j hj (by rw [e]; rfl)), hv.2.2⟩
  · rw [intVals_length, hl]
    exact ho
  · rw [intVals_length, intVals_length, hl]
    exact hap

/-- What the walk of withoutCell keeps: the argument's box, the answer's box, the list of both rows, the heap. -/
structure Wo (w : World) (S : Nat → Prop) (lo hi L q ca cb n m : Nat) (a : Option Addr) (us ys : List Int) (W : World) : Prop where
  arg : BoxL W w.heap.size [.slice a n ca, .slice (some ⟨q, 0, none⟩) m cb]
  res : BoxL W (w.heap.size + 1) [.slice none 0 0, .slice none 0 0]
  two : BoxL W L [.slice a n ca, .slice (some ⟨q, 0, none⟩) m cb]
  heap : HeapIn lo hi W a ca (some ⟨q, 0, none⟩) cb (intVals us) (intVals ys)
  turn : TurnB lo hi S w W
  hn : us.length = n
  hm : ys.length = m
  hL : w.heap.size + 1 < L
  hhi : hi ≤ w.heap.size
theorem Wo.setV {w W : World} {S : Nat → Prop} {lo hi L q ca cb n m g k : Nat} {us ys : List Int} (x : Int) (h : Wo w S lo hi L q ca cb n m (some ⟨g, 0, none⟩) us ys W) (hg1 : lo ≤ g) (hg2 : g < hi) (hS : S g) : Wo w S lo hi L q ca cb n m (some ⟨g, 0, none⟩) (us.set k x) ys (W.setCell ⟨g, k, none⟩ (.int .i64 x)) := by
  have ts := turn_set W g k (.int .i64 x)
  have h1 := h.hL
  have h2 := h.hhi
  exact ⟨h.arg.turn ts (.inr (by omega)), h.res.turn ts (.inr (by omega)), h.two.turn ts (.inr (by omega)), h.heap.setV x, h.turn.trans (turnB_at _ hg1 hg2 hS), by rw [List.length_set]; exact h.hn, h.hm, h1, h2⟩
theorem Wo.setZ {w W : World} {S : Nat → Prop} {lo hi L q ca cb n m k : Nat} {a : Option Addr} {us ys : List Int} (x : Int) (h : Wo w S lo hi L q ca cb n m a us ys W) (hg1 : lo ≤ q) (hg2 : q < hi) (hS : S q) : Wo w S lo hi L q ca cb n m a us (ys.set k x) (W.setCell ⟨q, k, none⟩ (.int .i64 x)) := by
  have ts := turn_set W q k (.int .i64 x)
  have h1 := h.hL
  have h2 := h.hhi
  exact ⟨h.arg.turn ts (.inr (by omega)), h.res.turn ts (.inr (by omega)), h.two.turn ts (.inr (by omega)), h.heap.setZ x, h.turn.trans (turnB_at _ hg1 hg2 hS), h.hn, by rw [List.length_set]; exact h.hm, h1, h2⟩

def Without (lo hi : Nat) (S : Nat → Prop) (vs zs : List Int) (w : World) (e : Ending) (w' : World) : Prop :=
  ∃ a ca b cb, e = .returned (heV a vs.length ca b zs.length cb) ∧ HeapIn lo hi w' a ca b cb (intVals vs) (intVals zs) ∧ TurnB lo hi S w w' ∧ (∀ k, blocksH a b vs.length ca zs.length cb k → S k)
set_option maxRecDepth 100000 in
set_option maxHeartbeats 3200000 in
theorem implWithout {lo hi q c : Nat} {S : Nat → Prop} {a : Option Addr} {ca cb : Nat} {vs zs : List Int} {w : World} (h : HeapIn lo hi w a ca (some ⟨q, 0, none⟩) cb (intVals vs) (intVals zs)) (hq1 : lo ≤ q) (hq2 : q < hi) (hc : c < zs.length) (hv4 : vs.length ≤ 4) (hz6 : zs.length ≤ 6)
    (hbv : ∀ x ∈ vs, -1 ≤ x ∧ x ≤ 6) (hbz : ∀ x ∈ zs, -1 ≤ x ∧ x ≤ 6) (hSq : S q) (hSa : ∀ g, a = some ⟨g, 0, none⟩ → S g) (hSa' : ∀ p : Addr, a = some p → S p.block) :
    Calls Tryz.prog 164 #[heV a vs.length ca (some ⟨q, 0, none⟩) zs.length cb, .int .i64 c] w (Without lo hi S (vs.map (lowC c)) ((zs.eraseIdx c).map (lowC c)) w) := by
  have hhi := h.v.1
  have hl : (zs.eraseIdx c).length = zs.length - 1 := by rw [List.length_eraseIdx, if_pos hc]
  have hbe : ∀ x ∈ zs.eraseIdx c, -1 ≤ x ∧ x ≤ 6 := fun x hx => hbz x (List.mem_of_mem_eraseIdx hx)
  obtain ⟨W0, hW0, hb0, bn0, bp0⟩ := two_boxL w [.slice a vs.length ca, .slice (some ⟨q, 0, none⟩) zs.length cb] [.slice none 0 0, .slice none 0 0] 30 30
  replace hW0 : ((w.alloc (.cells #[.slice a vs.length ca, .slice (some ⟨q, 0, none⟩) zs.length cb] 30)).alloc (.cells #[.slice none 0 0, .slice none 0 0] 30)) = W0 := hW0
  have c0 := bn0.c 0 _ rfl
  have c1 := bn0.c 1 _ rfl
  have h0 := h.turn (lo' := hi) (hi' := hi) (Turn.of_below hb0) (.inl (Nat.le_refl _))
  have hz0 := h0.z
  rw [intVals_length] at hz0
  go_enter Tryz.func164, Tryz.ntmps164
  go_wp2_with fail
  clear hW0
  rw [show (c : Int) + 1 = ((c + 1 : Nat) : Int) by omega]
  refine (libDelete hc hz0).mono ?_
  rintro e w1 ⟨rfl, ho1, t1⟩
  have h1 := h0.lessZ hc ho1 t1
  have bn1 := bn0.turn t1 (.inr (by omega))
  have bp1 := bp0.turn t1 (.inr (by omega))
  have T1 := (TurnB.of_below hb0 (lo := lo) (hi := hi) (S := S)).trans (TurnB.of_one t1 hq1 (by omega) hSq)
  have e0 := bn1.c 0 _ rfl
  have e1 := bn1.c 1 _ rfl
  have ef := bn1.f
  have hs1 := bp1.lt
  clear c0 c1 h0 hz0 ho1 t1 bn0 bp0 hb0
  have HW1 : Wo w S lo hi w1.heap.size q ca cb vs.length (zs.length - 1) a vs (zs.eraseIdx c) ((w1.setCell ⟨w.heap.size, 1, none⟩ (.slice (some ⟨q, 0, none⟩) (zs.length - 1) cb)).alloc (.cells #[.slice a vs.length ca, .slice (some ⟨q, 0, none⟩) (zs.length - 1) cb] 28)) := by
    have hbl := h1.blocks
    have ts := turn_set w1 w.heap.size 1 (.slice (some ⟨q, 0, none⟩) (zs.length - 1) cb)
    have ha := bn1.set 1 (.slice (some ⟨q, 0, none⟩) (zs.length - 1) cb)
    have hr := bp1.turn ts (.inr (by omega))
    have hh : HeapIn lo hi (w1.setCell ⟨w.heap.size, 1, none⟩ (.slice (some ⟨q, 0, none⟩) (zs.length - 1) cb)) a ca (some ⟨q, 0, none⟩) cb (intVals vs) (intVals (zs.eraseIdx c)) := h1.setNot fun k hk => by have := hbl k hk; omega
    have hb := (Below.refl (w1.setCell ⟨w.heap.size, 1, none⟩ (.slice (some ⟨q, 0, none⟩) (zs.length - 1) cb)).heap.size (w1.setCell ⟨w.heap.size, 1, none⟩ (.slice (some ⟨q, 0, none⟩) (zs.length - 1) cb))).alloc (Nat.le_refl _) (.cells #[.slice a vs.length ca, .slice (some ⟨q, 0, none⟩) (zs.length - 1) cb] 28)
    have hnew := BoxL.new (w1.setCell ⟨w.heap.size, 1, none⟩ (.slice (some ⟨q, 0, none⟩) (zs.length - 1) cb)) [.slice a vs.length ca, .slice (some ⟨q, 0, none⟩) (zs.length - 1) cb] 28
    rw [show (w1.setCell ⟨w.heap.size, 1, none⟩ (.slice (some ⟨q, 0, none⟩) (zs.length - 1) cb)).heap.size = w1.heap.size by simp] at hnew
    exact ⟨ha.below hb, hr.below hb, hnew, hh.below hb, (T1.setNew (Nat.le_refl _)).trans (TurnB.of_below hb), rfl, hl, hs1, hhi⟩
  have HL := Lib.hid hl
  go_wp2
  clear e0 e1 ef bn1 bp1 h1 T1
  generalize ((w1.setCell ⟨w.heap.size, 1, none⟩ (.slice (some ⟨q, 0, none⟩) (zs.length - 1) cb)).alloc (.cells #[.slice a vs.length ca, .slice (some ⟨q, 0, none⟩) (zs.length - 1) cb] 28)) = W4 at *
  generalize w1.heap.size = L at *
  have hm5 : zs.length - 1 ≤ 5 := by omega
  generalize zs.length - 1 = m at *
  go_loopw [22] (fun i wr => ∃ (t : Nat) (us ys : List Int), t ≤ 2 ∧ i = .int .i64 t ∧ ((t = 0 ∧ us = vs ∧ ys = zs.eraseIdx c) ∨ (t = 1 ∧ us = vs.map (lowC c) ∧ ys = zs.eraseIdx c) ∨ (t = 2 ∧ us = vs.map (lowC c) ∧ ys = (zs.eraseIdx c).map (lowC c))) ∧ Wo w S lo hi L q ca cb vs.length m a us ys wr)
    (fun i _ => 2 - (intOf i).toNat)
  case atStart => exact ⟨0, _, _, by omega, rfl, .inl ⟨rfl, rfl, rfl⟩, HW1⟩
  case round =>
    clear HW1
    obtain ⟨t, us, ys, ht, rfl, hcase, hW⟩ := hrel
    have t0 := hW.two.c 0 _ rfl
    have t1 := hW.two.c 1 _ rfl
    rcases hcase with ⟨rfl, hu, hy⟩ | ⟨rfl, hu, hy⟩ | ⟨rfl, hu, hy⟩ <;> rw [hu, hy] at hW <;> clear hu hy us ys
    case' inl =>
      have VB := Lib.hid hbv
      go_wp2
      go_loopw [28] (fun j wr => ∃ (k : Nat), k ≤ vs.length ∧ j = .int .i64 k ∧ Wo w S lo hi L q ca cb vs.length m a (mixL (lowC c) vs k) (zs.eraseIdx c) wr) (fun j _ => vs.length - (intOf j).toNat)
      case atStart => exact ⟨0, Nat.zero_le _, rfl, by rw [mixL_zero]; exact hW⟩
      case round =>
        clear hW
        obtain ⟨k, hk, rfl, hW⟩ := hrel
        by_cases hlt : k < vs.length
        · obtain ⟨g, rfl, hg1, hg2⟩ := hW.heap.v.block_ (by rw [intVals_length, mixL_length]; omega)
          have hcell := hW.heap.v.cellInt k (by rw [mixL_length]; exact hlt)
          rw [mixL_at _ _ hlt] at hcell
          have hbx := VB.out _ (List.getElem_mem hlt)
          have hnx := mixL_next (lowC c) vs hlt
          have hsm := mixL_same (lowC c) vs hlt
          have hfr := hW.heap.v.frozen_ k
          generalize hx : vs[k]'hlt = x at *
          clear hx
          by_cases hgt : (c : Int) < x
          · have hlow : lowC c x = x - 1 := if_pos hgt
            rw [hlow] at hnx
            have hwr : IntKind.i64.wrap (x - 1) = x - 1 := by rw [IntKind.wrap_i64]; omega
            have hW' := hW.setV (k := k) (x - 1) hg1 hg2 (hSa g rfl)
            rw [hnx] at hW'
            have HW := Lib.hid hW'
            clear hW hW' hnx hsm hlow
            go_wp2
            go_roundw
            case rel => exact ⟨k + 1, by omega, by go_num, HW.out⟩
            case measure => simp [intOf]; omega
          · have hlow : lowC c x = x := if_neg hgt
            have hW' := hW
            rw [← hsm hlow] at hW'
            have HW := Lib.hid hW'
            clear hW hW' hnx hsm hlow
            go_wp2
            go_roundw
            case rel => exact ⟨k + 1, by omega, by go_num, HW.out⟩
            case measure => simp [intOf]; omega
        · have hke : k = vs.length := by omega
          have hall : mixL (lowC c) vs k = vs.map (lowC c) := by rw [hke, mixL_all]
          rw [hall] at hW
          clear hall
          have HW := Lib.hid hW
          clear hW
          go_wp2
          go_roundw
          case rel => exact ⟨1, _, _, by omega, by go_num, .inr (.inl ⟨rfl, rfl, rfl⟩), HW.out⟩
          case measure => simp [intOf]
    case' inr.inl =>
      have ZB := Lib.hid hbe
      go_wp2
      go_loopw [28] (fun j wr => ∃ (k : Nat), k ≤ m ∧ j = .int .i64 k ∧ Wo w S lo hi L q ca cb vs.length m a (vs.map (lowC c)) (mixL (lowC c) (zs.eraseIdx c) k) wr) (fun j _ => m - (intOf j).toNat)
      case atStart => exact ⟨0, Nat.zero_le _, rfl, by rw [mixL_zero]; exact hW⟩
      case round =>
        clear hW
        obtain ⟨k, hk, rfl, hW⟩ := hrel
        by_cases hlt : k < m
        · have hlt' : k < (zs.eraseIdx c).length := by rw [HL.out]; exact hlt
          have hcell := hW.heap.z.cellInt k (by rw [mixL_length]; exact hlt')
          rw [mixL_at _ _ hlt'] at hcell
          have hbx := ZB.out _ (List.getElem_mem hlt')
          have hnx := mixL_next (lowC c) (zs.eraseIdx c) hlt'
          have hsm := mixL_same (lowC c) (zs.eraseIdx c) hlt'
          have hfr := hW.heap.z.frozen_ k
          generalize hx : (zs.eraseIdx c)[k]'hlt' = x at *
          clear hx
          by_cases hgt : (c : Int) < x
          · have hlow : lowC c x = x - 1 := if_pos hgt
            rw [hlow] at hnx
            have hwr : IntKind.i64.wrap (x - 1) = x - 1 := by rw [IntKind.wrap_i64]; omega
            have hW' := hW.setZ (k := k) (x - 1) hq1 hq2 hSq
            rw [hnx] at hW'
            have HW := Lib.hid hW'
            clear hW hW' hnx hsm hlow
            go_wp2
            go_roundw
            case rel => exact ⟨k + 1, by omega, by go_num, HW.out⟩
            case measure => simp [intOf]; omega
          · have hlow : lowC c x = x := if_neg hgt
            have hW' := hW
            rw [← hsm hlow] at hW'
            have HW := Lib.hid hW'
            clear hW hW' hnx hsm hlow
            go_wp2
            go_roundw
            case rel => exact ⟨k + 1, by omega, by go_num, HW.out⟩
            case measure => simp [intOf]; omega
        · have hke : k = m := by omega
          have hall : mixL (lowC c) (zs.eraseIdx c) k = (zs.eraseIdx c).map (lowC c) := by rw [hke, ← HL.out, mixL_all]
          rw [hall] at hW
          clear hall
          have HW := Lib.hid hW
          clear hW
          go_wp2
          go_roundw
          case rel => exact ⟨2, _, _, by omega, by go_num, .inr (.inr ⟨rfl, rfl, rfl⟩), HW.out⟩
          case measure => simp [intOf]
    case' inr.inr =>
      have r0 := hW.res.c 0 _ rfl
      have r1 := hW.res.c 1 _ rfl
      have rf := hW.res.f
      have a0 := hW.arg.c 0 _ rfl
      have a1 := hW.arg.c 1 _ rfl
      have hn := hW.hn
      have hm := hW.hm
      have hX := heap_box (Q := w.heap.size + 1) (u := .slice a vs.length ca) (v := .slice (some ⟨q, 0, none⟩) m cb) hW.heap hW.turn hhi (by omega)
      have hbl := hW.heap.blocks
      have hX2 : HeapIn lo hi ((wr.setCell ⟨w.heap.size + 1, 0, none⟩ (.slice a vs.length ca)).setCell ⟨w.heap.size + 1, 1, none⟩ (.slice (some ⟨q, 0, none⟩) m cb)) a ca (some ⟨q, 0, none⟩) cb (intVals (vs.map (lowC c))) (intVals ((zs.eraseIdx c).map (lowC c))) :=
        (hW.heap.setNot (Q := w.heap.size + 1) fun k hk => by have := hbl k hk; omega).setNot (Q := w.heap.size + 1) fun k hk => by have := hbl k hk; omega
      have HX := Lib.hid (And.intro hX2 hX.2)
      clear hX hX2 hW hbl
      go_wp2
      refine bodyPost_ret (v := heV a vs.length ca (some ⟨q, 0, none⟩) m cb) (by simp [results, Tryz.results164, go_sem, r0, r1]) rfl ?_
      exact ⟨a, ca, some ⟨q, 0, none⟩, cb, by rw [hn, hm], HX.out.1, HX.out.2, fun k hk => hk.elim (fun e => by cases a with | none => cases e | some p0 => exact Option.some.inj e ▸ hSa' p0 rfl) (fun e => Option.some.inj e ▸ hSq)⟩

theorem free_null {pa : Nat} {vs zs : List Int} (hp : pa < vs.length) (h : vs[pa] = -1) : freeS pa vs zs = badC 2 := by
  unfold freeS
  rw [getD_cell hp, if_pos h]
theorem free_used {pa c : Nat} {vs zs : List Int} (hp : pa < vs.length) (h : vs[pa] = (c : Int)) (hm : (c : Int) ∈ vs.set pa (-1) ∨ (c : Int) ∈ zs) : freeS pa vs zs = badC 5 := by
  unfold freeS
  rw [getD_cell hp, h, if_neg (by omega), if_pos hm]
theorem free_ok {pa c : Nat} {vs zs : List Int} (hp : pa < vs.length) (h : vs[pa] = (c : Int)) (hm : ¬ ((c : Int) ∈ vs.set pa (-1) ∨ (c : Int) ∈ zs)) : freeS pa vs zs = (0, (vs.set pa (-1)).map (lowC c), (zs.eraseIdx c).map (lowC c)) := by
  unfold freeS
  rw [getD_cell hp, h, if_neg (by omega), if_neg hm, Int.toNat_natCast]

theorem good_range {zs l : List Int} (hz6 : zs.length ≤ 6) (h : goodB zs l = true) : ∀ x ∈ l, -1 ≤ x ∧ x ≤ 6 := fun x hx => by
  rcases goodB_at h hx with rfl | h
  · omega
  · have := isC_iff.1 h
    omega

set_option maxRecDepth 100000 in
set_option maxHeartbeats 1600000 in
theorem implDoFree {lo hi pa : Nat} {a b : Option Addr} {ca cb : Nat} {vs zs : List Int} (y : Int) {w : World} (h : HeapIn lo hi w a ca b cb (intVals vs) (intVals zs)) (hp : pa < vs.length) (hv4 : vs.length ≤ 4) (hz6 : zs.length ≤ 6) (hgv : goodB zs vs = true) (hgz : goodB zs zs = true) :
    Calls Tryz.prog 154 #[heV a vs.length ca b zs.length cb, .int .i64 pa, .int .i64 y] w (Acted lo hi (blocksH a b vs.length ca zs.length cb) (freeS pa vs zs) w) := by
  obtain ⟨g, rfl, hg1, hg2⟩ := h.v.block_ (by rw [intVals_length]; omega)
  have hhi := h.v.1
  have n0 : ¬ w.heap.size = g := by omega
  have n1 : ¬ w.heap.size + 1 = g := by omega
  have n2 : g < w.heap.size := by omega
  have n3 : g < w.heap.size + 1 := by omega
  have hsrc := h.v.cellInt pa hp
  by_cases hn : vs[pa] = -1
  · rw [free_null hp hn]
    rw [hn] at hsrc
    clear hn
    go_enter Tryz.func154, Tryz.ntmps154
    go_wp2
    refine bodyPost_ret (v := .tuple #[heV none 0 0 none 0 0, .int .i64 2]) (by simp [results, Tryz.results154, go_sem]) rfl ?_
    refine acted_bad (TurnB.of_below ?_)
    repeat (first | with_reducible exact Below.refl _ _ | refine Below.drew ?_ | refine Below.alloc ?_ (by simp <;> omega) _ | refine Below.setCell ?_ (by simp <;> omega) _)
  · obtain ⟨c, hc, hcl⟩ := var_cell hp hgv hn
    have hne : ((c : Int) == -1) = false := by simp only [beq_eq_false_iff_ne, ne_eq]; omega
    rw [hc] at hsrc
    have HC := Lib.hid hc
    clear hn hc
    have hfr := h.v.frozen_ pa
    obtain ⟨q, rfl, hq1, hq2⟩ := h.z.block_ (by rw [intVals_length]; omega)
    obtain ⟨W0, hW0, hb0, bn0, bp0⟩ := two_boxL (w.setCell ⟨g, pa, none⟩ (.int .i64 (-1))) [.slice (some ⟨g, 0, none⟩) vs.length ca, .slice (some ⟨q, 0, none⟩) zs.length cb] [.slice none 0 0, .slice none 0 0] 30 30
    replace hW0 : (((w.setCell ⟨g, pa, none⟩ (.int .i64 (-1))).alloc (.cells #[.slice (some ⟨g, 0, none⟩) vs.length ca, .slice (some ⟨q, 0, none⟩) zs.length cb] 30)).alloc (.cells #[.slice none 0 0, .slice none 0 0] 30)) = W0 := hW0
    rw [show (w.setCell ⟨g, pa, none⟩ (.int .i64 (-1))).heap.size = w.heap.size by simp] at bn0 bp0
    have h1 := h.setV (k := pa) (-1)
    have h0 := h1.below hb0
    have T0 := (turnB_at (S := (blocksH (some ⟨g, 0, none⟩) (some ⟨q, 0, none⟩) vs.length ca zs.length cb)) (k := pa) (w := w) (.int .i64 (-1)) hg1 hg2 (.inl rfl)).trans (TurnB.of_below hb0)
    have el : (vs.set pa (-1)).length = vs.length := List.length_set
    have k0 := bn0.c 0 _ rfl
    have k1 := bn0.c 1 _ rfl
    have r0 := bp0.c 0 _ rfl
    have r1 := bp0.c 1 _ rfl
    have rf := bp0.f
    have hs0 := bp0.lt
    obtain ⟨m1, hm1⟩ : ∃ m1, decide ((c : Int) ∈ vs.set pa (-1)) = m1 := ⟨_, rfl⟩
    obtain ⟨m2, hm2⟩ : ∃ m2, decide ((c : Int) ∈ zs) = m2 := ⟨_, rfl⟩
    have HM1 := Lib.hid hm1
    have HM2 := Lib.hid hm2
    have hgv' : goodB zs (vs.set pa (-1)) = true := by
      rw [goodB, List.all_eq_true]
      intro x hx
      rcases List.mem_or_eq_of_mem_set hx with hx | rfl
      · have := goodB_at hgv hx
        simpa using this
      · simp
    have hbv := good_range hz6 hgv'
    have hbz := good_range hz6 hgz
    clear hm1 hm2 h1 h hb0 bn0
    go_enter Tryz.func154, Tryz.ntmps154
    go_wp2_with fail
    clear hW0
    have hcv := libContains (some ⟨g, 0, none⟩) ca (vs.set pa (-1)) (c : Int) W0 (by unfold maxLen; omega) h0.rows.v
    rw [el, HM1.out] at hcv
    refine hcv.mono ?_
    rintro e w1 ⟨rfl, rfl⟩
    cases m1
    case' true =>
      have HR := Lib.hid (free_used (zs := zs) hp HC.out (.inl (of_decide_eq_true HM1.out)))
      go_wp2
      refine bodyPost_ret (v := .tuple #[heV none 0 0 none 0 0, .int .i64 5]) (by simp [results, Tryz.results154, go_sem, r0, r1]) rfl ?_
      rw [HR.out]
      refine acted_bad ?_
      repeat (first | with_reducible exact T0 | refine TurnB.setNew ?_ (by omega))
    case' false =>
      go_wp2_with fail
      refine (libContains (some ⟨q, 0, none⟩) cb zs (c : Int) _ (by unfold maxLen; omega) h0.rows.z).mono ?_
      rw [HM2.out]
      rintro e w2 ⟨rfl, rfl⟩
      cases m2
      case' true =>
        have HR := Lib.hid (free_used hp HC.out (.inr (of_decide_eq_true HM2.out)))
        go_wp2
        refine bodyPost_ret (v := .tuple #[heV none 0 0 none 0 0, .int .i64 5]) (by simp [results, Tryz.results154, go_sem, r0, r1]) rfl ?_
        rw [HR.out]
        refine acted_bad ?_
        repeat (first | with_reducible exact T0 | refine TurnB.setNew ?_ (by omega))
      case' false =>
        have HR := Lib.hid (free_ok hp HC.out (fun hh => hh.elim (of_decide_eq_false HM1.out) (of_decide_eq_false HM2.out)))
        go_wp2_with fail
        have hwo := implWithout (S := (blocksH (some ⟨g, 0, none⟩) (some ⟨q, 0, none⟩) vs.length ca zs.length cb)) h0 hq1 hq2 hcl (by omega) hz6 hbv hbz (.inr rfl) (fun g' e => by have e := Option.some.inj e; injection e with e; subst e; exact .inl rfl) (fun p e => by have e := Option.some.inj e; subst e; exact .inl rfl)
        rw [el] at hwo
        refine hwo.mono ?_
        rintro e w3 ⟨xa, xca, xb, xcb, rfl, h3, t3, hb3⟩
        have bp3 := bp0.turn t3.t (.inr (by omega))
        have q0 := bp3.c 0 _ rfl
        have q1 := bp3.c 1 _ rfl
        have qf := bp3.f
        have hX := heap_box (Q := w.heap.size + 1) (u := .slice xa ((vs.set pa (-1)).map (lowC c)).length xca) (v := .slice xb ((zs.eraseIdx c).map (lowC c)).length xcb) h3 (T0.trans t3) hhi (by omega)
        have HX := Lib.hid hX
        clear hX h3 hwo hcv r0 r1 rf k0 k1 bp0 bp3 h0
        generalize hvv : (vs.set pa (-1)).map (lowC c) = us at *
        generalize hzz : (zs.eraseIdx c).map (lowC c) = ys at *
        clear hvv hzz
        go_wp2
        refine bodyPost_ret (v := .tuple #[heV xa us.length xca xb ys.length xcb, .int .i64 0]) (by simp [results, Tryz.results154, go_sem, q0, q1]) rfl ?_
        rw [HR.out]
        exact acted_of rfl rfl HX.out.1 HX.out.2 (fun k hk => .inl (hb3 k (blocksH_any hk)))
end Go.Proofs.YtpmmjaceehlpiaaGreatDoor
/-
  The program's action that links a cell to another one.
-/
namespace Go.Proofs.YtpmmjaceehlpiaaGreatDoor
open Go Go.RowKit Go.ChangeShapes Go.WideShapes Go.ChangeAt

theorem link_null {pa pb : Nat} {vs zs : List Int} (hp : pa < vs.length) (h : vs[pa] = -1) : linkS pa pb vs zs = badC 2 := by
  unfold linkS
  rw [getD_cell hp, if_pos h]
theorem link_ring {pa pb c : Nat} {vs zs : List Int} (hp : pa < vs.length) (hq : pb < vs.length) (h : vs[pa] = (c : Int)) (hm : (c : Int) ∈ followed zs vs[pb]) : linkS pa pb vs zs = badC 3 := by
  unfold linkS
  rw [getD_cell hp, getD_cell hq, h, if_neg (by omega), if_pos hm]
theorem link_ok {pa pb c : Nat} {vs zs : List Int} (hp : pa < vs.length) (hq : pb < vs.length) (h : vs[pa] = (c : Int)) (hm : ¬ (c : Int) ∈ followed zs vs[pb]) : linkS pa pb vs zs = (0, vs, zs.set c vs[pb]) := by
  unfold linkS
  rw [getD_cell hp, getD_cell hq, h, if_neg (by omega), if_neg hm, Int.toNat_natCast]

set_option maxRecDepth 100000 in
set_option maxHeartbeats 1600000 in
theorem implDoLink {lo hi pa pb : Nat} {a b : Option Addr} {ca cb : Nat} {vs zs : List Int} {w : World} (h : HeapIn lo hi w a ca b cb (intVals vs) (intVals zs)) (hp : pa < vs.length) (hq : pb < vs.length) (hgv : goodB zs vs = true) (hz6 : zs.length ≤ 6) :
    Calls Tryz.prog 153 #[heV a vs.length ca b zs.length cb, .int .i64 pa, .int .i64 pb] w (Acted lo hi (blocksH a b vs.length ca zs.length cb) (linkS pa pb vs zs) w) := by
  obtain ⟨g, rfl, hg1, hg2⟩ := h.v.block_ (by rw [intVals_length]; omega)
  have hhi := h.v.1
  have n0 : ¬ w.heap.size = g := by omega
  have n1 : ¬ w.heap.size + 1 = g := by omega
  have n2 : g < w.heap.size := by omega
  have n3 : g < w.heap.size + 1 := by omega
  have hsrc := h.v.cellInt pa hp
  by_cases hn : vs[pa] = -1
  · rw [link_null hp hn]
    rw [hn] at hsrc
    clear hn
    go_enter Tryz.func153, Tryz.ntmps153
    go_wp2
    refine bodyPost_ret (v := .tuple #[heV none 0 0 none 0 0, .int .i64 2]) (by simp [results, Tryz.results153, go_sem]) rfl ?_
    refine acted_bad (TurnB.of_below ?_)
    repeat (first | with_reducible exact Below.refl _ _ | refine Below.drew ?_ | refine Below.alloc ?_ (by simp <;> omega) _ | refine Below.setCell ?_ (by simp <;> omega) _)
  · obtain ⟨c, hc, hcl⟩ := var_cell hp hgv hn
    have hne : ((c : Int) == -1) = false := by simp only [beq_eq_false_iff_ne, ne_eq]; omega
    rw [hc] at hsrc
    have hsrcb := h.v.cellInt pb hq
    clear hn
    obtain ⟨q, rfl, hq1, hq2⟩ := h.z.block_ (by rw [intVals_length]; omega)
    have HP := Lib.hid hp
    have HQ := Lib.hid hq
    have HC := Lib.hid hc
    obtain ⟨xb, hxb⟩ : ∃ xb, vs[pb]'hq = xb := ⟨_, rfl⟩
    have HXB := Lib.hid hxb
    rw [hxb] at hsrcb
    clear hxb hc
    obtain ⟨W0, hW0, hb0, bn0, bp0⟩ := two_boxL w [.slice (some ⟨g, 0, none⟩) vs.length ca, .slice (some ⟨q, 0, none⟩) zs.length cb] [.slice none 0 0, .slice none 0 0] 30 30
    replace hW0 : ((w.alloc (.cells #[.slice (some ⟨g, 0, none⟩) vs.length ca, .slice (some ⟨q, 0, none⟩) zs.length cb] 30)).alloc (.cells #[.slice none 0 0, .slice none 0 0] 30)) = W0 := hW0
    have c0 := bn0.c 0 _ rfl
    have c1 := bn0.c 1 _ rfl
    have hA : ∀ W, Below W0.heap.size W0 W → BoxL W w.heap.size [.slice (some ⟨g, 0, none⟩) vs.length ca, .slice (some ⟨q, 0, none⟩) zs.length cb] ∧ BoxL W (w.heap.size + 1) [.slice none 0 0, .slice none 0 0] ∧ HeapIn lo hi W (some ⟨g, 0, none⟩) ca (some ⟨q, 0, none⟩) cb (intVals vs) (intVals zs) ∧ TurnB lo hi (blocksH (some ⟨g, 0, none⟩) (some ⟨q, 0, none⟩) vs.length ca zs.length cb) w W := fun W hb =>
      ⟨bn0.below hb, bp0.below hb, h.turn (lo' := hi) (hi' := hi) (Turn.of_below (hb0.trans (hb.mono hb0.size))) (.inl (Nat.le_refl _)), TurnB.of_below (hb0.trans (hb.mono hb0.size))⟩
    have hS : ∀ W, Below W0.heap.size W0 W → (W.cell? ⟨w.heap.size, 0, none⟩ = some (.slice (some ⟨g, 0, none⟩) vs.length ca) ∧ W.cell? ⟨w.heap.size, 1, none⟩ = some (.slice (some ⟨q, 0, none⟩) zs.length cb)) ∧ (W.cell? ⟨g, pa, none⟩ = some (.int .i64 (c : Int)) ∧ W.cell? ⟨g, pb, none⟩ = some (.int .i64 xb)) := fun W hb =>
      ⟨⟨(hA W hb).1.c 0 _ rfl, (hA W hb).1.c 1 _ rfl⟩, by have := (hA W hb).2.2.1.v.cellInt pa HP.out; rw [HC.out] at this; exact this, by have := (hA W hb).2.2.1.v.cellInt pb HQ.out; rw [HXB.out] at this; exact this⟩
    have s0 := (hS W0 (Below.refl _ _)).2.1
    have HA := Lib.hid hA
    have HS := Lib.hid hS
    have hD : Below W0.heap.size W0 W0.drew := Below.drew (Below.refl _ _)
    have hfl : (followed zs xb).length ≤ maxLen := by have := (followed_ok zs xb).len; unfold maxLen; omega
    clear hA hS h bn0 bp0 hb0
    obtain ⟨mb, hmb⟩ : ∃ mb, decide ((c : Int) ∈ followed zs xb) = mb := ⟨_, rfl⟩
    have HMB := Lib.hid hmb
    clear hmb
    go_enter Tryz.func153, Tryz.ntmps153
    go_wp2
    clear hW0
    go_region_held3 (fun W => (W.cell? ⟨w.heap.size, 0, none⟩ = some (.slice (some ⟨g, 0, none⟩) vs.length ca) ∧ W.cell? ⟨w.heap.size, 1, none⟩ = some (.slice (some ⟨q, 0, none⟩) zs.length cb)) ∧ (W.cell? ⟨g, pa, none⟩ = some (.int .i64 (c : Int)) ∧ W.cell? ⟨g, pb, none⟩ = some (.int .i64 xb)))
      (first | exact HS.out _ hD | exact HS.out _ (Below.drew hD) | exact HS.out _ H1)
      (first
        | (go_at_call 130; (with_reducible refine (implFollowed (some ⟨g, 0, none⟩) (some ⟨q, 0, none⟩) vs.length ca cb zs xb _ (by omega) (HA.out _ hD).2.2.1.rows.z).mono ?_); rintro e w1 ⟨fa, fc, rfl, _, hf1, hb1⟩; rw [intVals_length] at hf1 ⊢; have H1 := hD.trans (hb1.mono hD.size))
        | (go_at_call 53; (with_reducible refine (libContains fa fc (followed zs xb) (c : Int) _ hfl (Row.owned hf1)).mono ?_); rw [HMB.out]; rintro e w2 ⟨rfl, rfl⟩))
    obtain ⟨bn1, bp1, h1, T1⟩ := HA.out _ H1
    have hbl := h1.blocks
    have d0 := bn1.c 0 _ rfl
    have d1 := bn1.c 1 _ rfl
    have d2 := bp1.c 0 _ rfl
    have d3 := bp1.c 1 _ rfl
    have df := bp1.f
    have hs1 := bp1.lt
    have k0 := h1.v.cellInt pa hp
    rw [HC.out] at k0
    have k1 := h1.v.cellInt pb hq
    rw [HXB.out] at k1
    have k2 := h1.z.cellInt c hcl
    have k3 := h1.z.frozen_ c
    clear c0 c1 s0 HA HS hD H1 hb1 hf1 hsrc hsrcb hfl bn1 bp1
    cases mb
    case' true =>
      have HR := Lib.hid (link_ring hp hq HC.out (by rw [HXB.out]; exact of_decide_eq_true HMB.out))
      go_wp2
      refine bodyPost_ret (v := .tuple #[heV none 0 0 none 0 0, .int .i64 3]) (by simp [results, Tryz.results153, go_sem, d2, d3]) rfl ?_
      rw [HR.out]
      refine acted_bad ?_
      repeat (first | with_reducible exact T1 | refine TurnB.setNew ?_ (by omega))
    case' false =>
      have hlo := link_ok hp hq HC.out (by rw [HXB.out]; exact of_decide_eq_false HMB.out)
      rw [HXB.out] at hlo
      have HR := Lib.hid hlo
      clear hlo
      go_wp2
      go_region
      all_goals
        go_wp2
        refine bodyPost_ret (v := .tuple #[heV (some ⟨g, 0, none⟩) vs.length ca (some ⟨q, 0, none⟩) zs.length cb, .int .i64 0]) (by simp [results, Tryz.results153, go_sem, d2, d3]) rfl ?_
        rw [HR.out]
        have hX := heap_box (Q := w.heap.size + 1) (u := .slice (some ⟨g, 0, none⟩) vs.length ca) (v := .slice (some ⟨q, 0, none⟩) zs.length cb) (h1.setZ (k := c) xb) (T1.trans (turnB_at (.int .i64 xb) hq1 hq2 (.inr rfl))) hhi (by omega)
        exact acted_of rfl List.length_set hX.1.draws hX.2.draws
end Go.Proofs.YtpmmjaceehlpiaaGreatDoor
/-
  The program's action that makes a cell.
-/
namespace Go.Proofs.YtpmmjaceehlpiaaGreatDoor
open Go Go.RowKit Go.ChangeShapes Go.WideShapes Go.ChangeAt

/-- A row of a heap grew by one cell, perhaps in a new block. -/
theorem HeapIn.pushZ {lo hi B : Nat} {S : Nat → Prop} {W W' : World} {a b : Option Addr} {ca cb : Nat} {vs zs : List Int} {b' : Option Addr} {cb' : Nat} {x : Int} (h : HeapIn lo hi W a ca b cb (intVals vs) (intVals zs))
    (ho : W'.ownsRow lo 3 1 (.slice b' (zs.length + 1) cb') (zs.length + 1) (intVals (zs ++ [x]))) (hg : W.grownBy W' (Value.slice b zs.length cb).ownBlock) (hl : (Value.slice b' (zs.length + 1) cb').ownBlock = (Value.slice b zs.length cb).ownBlock ∨ ∃ k, (Value.slice b' (zs.length + 1) cb').ownBlock = some k ∧ B ≤ k) (hB : hi ≤ B) (hS : ∀ k, blocksH a b vs.length ca zs.length cb k → S k) :
    HeapIn lo W'.heap.size W' a ca b' cb' (intVals vs) (intVals (zs ++ [x])) ∧ TurnB lo hi S W W' ∧ ∀ k, blocksH a b' vs.length ca (zs ++ [x]).length cb' k → (S k ∧ k < hi) ∨ B ≤ k := by
  have el : (intVals (zs ++ [x])).length = zs.length + 1 := by rw [intVals_length]; simp
  have hv := h.v
  have hz := h.z
  have hap := h.apart
  rw [intVals_length] at hv hz hap
  rw [intVals_length] at hap
  have hv' := own_other hv.2.1 hg (fun k hk e => hap k hk e.symm)
  refine ⟨⟨?_, ?_, ?_⟩, TurnB.of_grown hg fun k hk => ⟨(hz.2.1.lt k hk).1, hz.2.2 k hk, hS k (.inr hk)⟩, fun k hk => ?_⟩
  · rw [intVals_length]
    exact ⟨Nat.le_refl _, hv', fun k hk => Nat.lt_of_lt_of_le (hv.2.2 k hk) (Nat.le_trans hv.1 hg.size)⟩
  · rw [el]
    exact OwnIn.of ho
  · rw [el, intVals_length]
    intro j hj1 hj2
    rcases hl with e | ⟨k, e, hk⟩
    · exact hap j hj1 (e ▸ hj2)
    · have h1 := hv.2.2 j hj1
      rw [e] at hj2
      have := Option.some.inj hj2
      omega
  · rcases hk with e | e
    · exact .inl ⟨hS k (.inl e), hv.2.2 k e⟩
    · rw [List.length_append, List.length_singleton] at e
      rcases hl with q | ⟨j, q, hj⟩
      · exact .inl ⟨hS k (.inr (q ▸ e)), hz.2.2 k (q ▸ e)⟩
      · rw [q] at e
        obtain rfl := Option.some.inj e
        exact .inr hj

set_option maxRecDepth 100000 in
set_option maxHeartbeats 1600000 in
theorem implDoNew {lo hi pa : Nat} {a b : Option Addr} {ca cb : Nat} {vs zs : List Int} (y : Int) {w : World} (h : HeapIn lo hi w a ca b cb (intVals vs) (intVals zs)) (hp : pa < vs.length) (hz6 : zs.length ≤ 6) :
    Calls Tryz.prog 149 #[heV a vs.length ca b zs.length cb, .int .i64 pa, .int .i64 y] w (Acted lo hi (blocksH a b vs.length ca zs.length cb) (if zs.length = 6 then badC 6 else (0, vs.set pa (zs.length : Int), zs ++ [-1])) w) := by
  obtain ⟨i0, hi0, hz0, hz1, hz2⟩ := info_parts intInfoH
  by_cases h6 : zs.length = 6
  · rw [if_pos h6]
    have h6i : ((zs.length : Int) == 6) = true := by simp only [beq_iff_eq]; omega
    clear h6 hz6
    go_enter Tryz.func149, Tryz.ntmps149
    go_wp2
    refine bodyPost_ret (v := .tuple #[heV none 0 0 none 0 0, .int .i64 6]) (by simp [results, Tryz.results149, go_sem]) rfl ?_
    refine acted_bad (TurnB.of_below ?_)
    repeat (first | with_reducible exact Below.refl _ _ | refine Below.drew ?_ | refine Below.alloc ?_ (by simp <;> omega) _ | refine Below.setCell ?_ (by simp <;> omega) _)
  · rw [if_neg h6]
    have h6i : ((zs.length : Int) == 6) = false := by simp only [beq_eq_false_iff_ne, ne_eq]; omega
    obtain ⟨g, rfl, hg1, hg2⟩ := h.v.block_ (by rw [intVals_length]; omega)
    have hhi := h.v.1
    have n0 : ¬ w.heap.size = g := by omega
    have n1 : ¬ w.heap.size + 1 = g := by omega
    have n2 : g < w.heap.size := by omega
    have n3 : g < w.heap.size + 1 := by omega
    have hold := h.v.cellInt pa hp
    have hfr := h.v.frozen_ pa
    have h1 := h.setV (k := pa) (zs.length : Int)
    have t1 : TurnB lo hi (blocksH (some ⟨g, 0, none⟩) b vs.length ca zs.length cb) w (w.setCell ⟨g, pa, none⟩ (.int .i64 (zs.length : Int))) := turnB_at _ hg1 hg2 (.inl rfl)
    obtain ⟨W0, hW0, hb0, bn0, bp0⟩ := two_boxL (w.setCell ⟨g, pa, none⟩ (.int .i64 (zs.length : Int))) [.slice (some ⟨g, 0, none⟩) vs.length ca, .slice b zs.length cb] [.slice none 0 0, .slice none 0 0] 30 30
    replace hW0 : ((w.setCell ⟨g, pa, none⟩ (.int .i64 (zs.length : Int))).alloc (.cells #[.slice (some ⟨g, 0, none⟩) vs.length ca, .slice b zs.length cb] 30)).alloc (.cells #[.slice none 0 0, .slice none 0 0] 30) = W0 := hW0
    have hs0 : (w.setCell ⟨g, pa, none⟩ (.int .i64 (zs.length : Int))).heap.size = w.heap.size := by simp
    rw [hs0] at bn0 bp0
    have h0 := h1.below hb0
    have T0 := t1.trans (TurnB.of_below hb0)
    have hown0 := h0.z.2.1
    rw [intVals_length] at hown0
    have hlow : lo ≤ W0.heap.size := by have := bp0.lt; omega
    have hal := (Below.refl W0.heap.size W0).alloc (Nat.le_refl _) (.cells #[.int .i64 (-1)] 3)
    have h0a := h0.below hal
    have bn0a := bn0.below hal
    have bp0a := bp0.below hal
    have T0a := T0.trans (TurnB.of_below hal)
    have hbig : w.heap.size + 1 < W0.heap.size := bp0.lt
    have hown0a := h0a.z.2.1
    rw [intVals_length] at hown0a
    have hzlt := h0a.z.2.2
    rw [intVals_length] at hzlt
    have k0 := bn0.c 0 _ rfl
    have k1 := bn0.c 1 _ rfl
    clear h1 t1 h bn0 bp0 hb0 T0 h0 hown0
    go_enter Tryz.func149, Tryz.ntmps149
    go_wp2_with (first
      | (at_builtin; (try rw [hW0]); refine wpList_append_own_at _ rfl (.tmp 21) (.tmp 22) 28 rfl lo 3 i0 (.int .i64 0) 1 8 Tryz.underlying28 hi0 hz0 hz1 hz2 rfl (by decide) _ zs.length _ rfl hown0a ⟨W0.heap.size, 0, none⟩ 1 1 [.int .i64 (-1)] rfl rfl (oneCell_at _) (oneCell_int _) (by unfold maxLen; omega) (by omega) (by simp; omega) ?_; intro v5 w5 hown5 hg5 _ hloc; obtain ⟨va5, vc5, rfl, _⟩ := own_shape hown5; obtain ⟨h5, t5, hbl⟩ := h0a.pushZ (S := blocksH (some ⟨g, 0, none⟩) b vs.length ca zs.length cb) (B := W0.heap.size) (x := -1) (by rw [intVals_snoc]; exact hown5) hg5 (hloc.imp id fun e => Exists.intro _ (And.intro e (by simp))) (by omega) (fun k hk => blocksH_any hk); have bn5 := bn0a.turn t5.t (.inr (by omega)); have bp5 := bp0a.turn t5.t (.inr (by omega)); have d0 := bn5.c 0 _ rfl; have d1 := bn5.c 1 _ rfl; have df := bn5.f; have e0 := bp5.c 0 _ rfl; have e1 := bp5.c 1 _ rfl; have ef := bp5.f; have hs5 := bp5.lt; clear bn5 bp5 bn0a bp0a hown5 hg5 hloc h0a hown0a hzlt)
      | fail)
    refine bodyPost_ret (v := .tuple #[heV (some ⟨g, 0, none⟩) vs.length ca va5 (zs.length + 1) vc5, .int .i64 0]) (by simp [results, Tryz.results149, go_sem, e0, e1]) rfl ?_
    refine acted_of List.length_set (by simp) ?_ ?_ (fun k hk => (hbl k hk).imp (fun hh => hh.1) (fun hh => by omega))
    · have hs : (((w5.setCell ⟨w.heap.size, 1, none⟩ (.slice va5 (zs.length + 1) vc5)).setCell ⟨w.heap.size + 1, 0, none⟩ (.slice (some ⟨g, 0, none⟩) vs.length ca)).setCell ⟨w.heap.size + 1, 1, none⟩ (.slice va5 (zs.length + 1) vc5)).heap.size = w5.heap.size := by simp
      rw [hs]
      exact ((h5.setNot fun k hk => by have := hbl k hk; omega).setNot fun k hk => by have := hbl k hk; omega).setNot fun k hk => by have := hbl k hk; omega
    · repeat (first | with_reducible exact T0a.trans t5 | refine TurnB.setNew ?_ (by omega))
end Go.Proofs.YtpmmjaceehlpiaaGreatDoor
