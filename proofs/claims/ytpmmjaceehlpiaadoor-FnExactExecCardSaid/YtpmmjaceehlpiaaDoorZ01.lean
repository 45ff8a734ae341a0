/-
  Several texts of one proof in one file, in the order in which they build.
-/
import Derived.Shelf.Slices.Turned
import Derived.Shelf.Slices.Equal
import Derived.Ground.Names2Prog
import Derived.Shelf.Slices.Clone
import Derived.Shelf.Slices.Delete
import Derived.Shelf.Slices.Cells
import Derived.Shelf.Slices.Empties2
import Derived.Test.YtpmmjaceehlpiaaDoorProg
import Derived.WalkKit
import Derived.ProofKit
import Derived.OpenShut
import Derived.Carry
import Derived.MapKept
import Derived.Laws.StructEq
import Derived.SliceStrings
import Derived.Deep.Draws
import Derived.Deep.QuietTactic
import Derived.BigQuiet
import Derived.Deep.DeepHandedRow
import Derived.Lib.Hide
import Derived.Lib.AppendStr
import Derived.Lib.ItoaNum
import Derived.Laws.BytesString
import Derived.Laws.IdiomStrings
import Derived.Test.YtpmmjaceehlpiaaDoorChecked
import Derived.LaidLaws
import Derived.OpenVars
import Derived.ChangeArms
import Derived.Stop.LaidErr
import Derived.Lib.LaidTab
import Derived.Lib.SmallJoins
import Derived.Lib.QuietBelow
import Derived.Laws.ResultCell
import Derived.Deep.AppendLies
import Derived.Laws.BitsAllLaws
import Derived.Laws.BitsLemmas
import Derived.Test.YtpmmjaceehlpiaaDoorRows
import Derived.Deep.Slices
import Derived.Deep.RegionHeld3
import Derived.Maps.OwnSet
import Derived.Maps.RangeWalk
import Derived.Maps.Ext
/-
  Contracts of Go's library, taken from the kit's shelf at this seat's numbers: nothing is walked here, each is one application.
-/
namespace Go.Proofs
open Go.Shelf
def Tryd.lays107_ren : Go.Shelf.Ren := ⟨fun | 107 => 95 | 108 => 102 | n => n, fun | 28 => 27 | 3 => 3 | 4 => 4 | 0 => 0 | n => n, fun | n => n⟩
theorem Tryd.lays107 : Go.Proofs.Lays.n107 Tryd.prog Tryd.lays107_ren := {
  mixed := by kernel_rfl
  f107 := Tryd.func95.trans (congrArg some (by kernel_rfl))
  f108 := Tryd.func102.trans (congrArg some (by kernel_rfl))
  t0 := Tryd.underlying0
  a0 := Tryd.isAgg0
  z0 := Tryd.sizeOf0
  v0 := Tryd.zeroValue0
  t3 := Tryd.underlying3
  a3 := Tryd.isAgg3
  z3 := Tryd.sizeOf3
  v3 := Tryd.zeroValue3
  t4 := Tryd.underlying4
  a4 := Tryd.isAgg4
  z4 := Tryd.sizeOf4
  v4 := Tryd.zeroValue4
  t28 := Tryd.underlying27
  a28 := Tryd.isAgg27
  z28 := Tryd.sizeOf27
  v28 := Tryd.zeroValue27 }
open Go.Lib in
theorem Tryd.slices_Contains_int (b off n c : Nat) (zs : List Int) (x : Int) (w : World) (hz : n ≤ zs.length) (hbig : n ≤ 9223372036854775807) (hc : ∀ j, j < zs.length → w.cell? ⟨b, off + j, none⟩ = some (.int .i64 (zs.getD j 0))) :
    Calls Tryd.prog 95 #[.slice (some ⟨b, off, none⟩) n c, .int .i64 x] w fun e w' => e = .returned (.bool ((zs.take n).contains x)) ∧ w' = w := Any.slices_Contains_int Tryd.lays107 b off n c zs x w hz hbig hc
open Go.Lib in
theorem Tryd.slices_Contains_int_empty (a : Option Addr) (c : Nat) (x : Int) (w : World) :
    Calls Tryd.prog 95 #[.slice a 0 c, .int .i64 x] w fun e w' => e = .returned (.bool false) ∧ w' = w := Any.slices_Contains_int_empty Tryd.lays107 a c x w
def Tryd.laysNm215_ren : Go.Shelf.Ren := ⟨fun | 15 => 82 | n => n, fun | 22 => 27 | 3 => 3 | 4 => 4 | n => n, fun | n => n⟩
theorem Tryd.laysNm215 : Go.Proofs.Lays2.n15 Tryd.prog Tryd.laysNm215_ren := {
  mixed := by kernel_rfl
  f15 := Tryd.func82.trans (congrArg some (by kernel_rfl))
  t3 := Tryd.underlying3
  a3 := Tryd.isAgg3
  z3 := Tryd.sizeOf3
  v3 := Tryd.zeroValue3
  t4 := Tryd.underlying4
  a4 := Tryd.isAgg4
  z4 := Tryd.sizeOf4
  v4 := Tryd.zeroValue4
  t22 := Tryd.underlying27
  a22 := Tryd.isAgg27
  z22 := Tryd.sizeOf27
  v22 := Tryd.zeroValue27
  i3 := by kernel_rfl }
open Go.RowKit Go.Lib in
theorem Tryd.slices_Clone_int (b off n c : Nat) (zs : List Int) (w : World) (hz : n ≤ zs.length) (hbig : n * 8 ≤ 140737488355328) (hc : ∀ j, j < zs.length → w.cell? ⟨b, off + j, none⟩ = some (.int .i64 (zs.getD j 0))) :
    Calls Tryd.prog 82 #[.slice (some ⟨b, off, none⟩) n c] w fun e w' => ∃ v', e = .returned v' ∧ w'.ownsRow w.heap.size 3 1 v' n ((zs.take n).map (Value.int .i64)) ∧ v' ≠ .slice none 0 0 ∧ Below w.heap.size w w' := Any.slices_Clone_int Tryd.laysNm215 b off n c zs w hz hbig hc
open Go.RowKit Go.Lib in
theorem Tryd.slices_Clone_int_nil (n c : Nat) (w : World) :
    Calls Tryd.prog 82 #[.slice none n c] w fun e w' => e = .returned (.slice none 0 0) ∧ w' = w := Any.slices_Clone_int_nil Tryd.laysNm215 n c w
open Go.RowKit Go.Lib in
theorem Tryd.slices_Clone_int_zero (a : Addr) (c : Nat) (w : World) :
    Calls Tryd.prog 82 #[.slice (some a) 0 c] w fun e w' => ∃ v', e = .returned v' ∧ w'.ownsRow w.heap.size 3 1 v' 0 [] ∧ v' ≠ .slice none 0 0 ∧ Below w.heap.size w w' := Any.slices_Clone_int_zero Tryd.laysNm215 a c w
def Tryd.laysNm223_ren : Go.Shelf.Ren := ⟨fun | 23 => 103 | n => n, fun | 22 => 27 | 3 => 3 | 4 => 4 | 0 => 0 | n => n, fun | n => n⟩
theorem Tryd.laysNm223 : Go.Proofs.Lays2.n23 Tryd.prog Tryd.laysNm223_ren := {
  mixed := by kernel_rfl
  f23 := Tryd.func103.trans (congrArg some (by kernel_rfl))
  t0 := Tryd.underlying0
  a0 := Tryd.isAgg0
  z0 := Tryd.sizeOf0
  v0 := Tryd.zeroValue0
  t3 := Tryd.underlying3
  a3 := Tryd.isAgg3
  z3 := Tryd.sizeOf3
  v3 := Tryd.zeroValue3
  t4 := Tryd.underlying4
  a4 := Tryd.isAgg4
  z4 := Tryd.sizeOf4
  v4 := Tryd.zeroValue4
  t22 := Tryd.underlying27
  a22 := Tryd.isAgg27
  z22 := Tryd.sizeOf27
  v22 := Tryd.zeroValue27
  i3 := by kernel_rfl }
open Go.RowKit Go.Lib Go.Sort in
theorem Tryd.slices_Delete_int_cells (b off n c i j : Nat) (zs : List Int) (w : World) (hz : n ≤ zs.length) (hcap : n ≤ c) (hm : c ≤ 9223372036854775807) (hij : i ≤ j) (hj : j ≤ n) (hc : ∀ j, j < zs.length → w.cell? ⟨b, off + j, none⟩ = some (.int .i64 (zs.getD j 0))) (hf : ∀ j, j < n → w.frozen? ⟨b, off + j, none⟩ = false) :
    Calls Tryd.prog 103 #[.slice (some ⟨b, off, none⟩) n c, .int .i64 i, .int .i64 j] w fun e w' => e = .returned (.slice (some ⟨b, off, none⟩) (n - (j - i)) c) ∧ ∃ q, w' = (w.drewN q).setCells b off (((zs.take n).take i ++ (zs.take n).drop j ++ List.replicate (j - i) 0).map (Value.int .i64)) := Any.slices_Delete_int_cells Tryd.laysNm223 b off n c i j zs w hz hcap hm hij hj hc hf
end Go.Proofs
/-
  Words that the proofs of this seat share: a row of cells behind a slice (nil let in), a law's last step, sums of lengths. Nothing here knows of the program.
-/
namespace Go.Proofs.YtpmmjaceehlpiaaDoor
open Go Go.ChangeShapes Go.WideShapes Go.ChangeAt Go.RowKit

/-- The cells from an address on, all below block B: with no cell asked, any address will do. -/
def Row (w : World) (B : Nat) (a : Option Addr) (xs : List Value) : Prop :=
  ∀ k x, xs[k]? = some x → ∃ b o, a = some ⟨b, o, none⟩ ∧ b < B ∧ w.cell? ⟨b, o + k, none⟩ = some x

theorem Row.keeps {w w' : World} {B : Nat} {a : Option Addr} {xs : List Value} (h : Row w B a xs) (hk : ∀ p : Addr, p.block < B → w'.cell? p = w.cell? p) : Row w' B a xs := by
  intro k x hx
  obtain ⟨b, o, e, hb, hc⟩ := h k x hx
  exact ⟨b, o, e, hb, (hk _ hb).trans hc⟩
theorem Row.below {w w' : World} {B : Nat} {a : Option Addr} {xs : List Value} (h : Row w B a xs) (hb : Below B w w') : Row w' B a xs := h.keeps fun _ hp => hb.cell hp
theorem Row.grow {w : World} {B B' : Nat} {a : Option Addr} {xs : List Value} (h : Row w B a xs) (hB : B ≤ B') : Row w B' a xs := by
  intro k x hx
  obtain ⟨b, o, e, hb, hc⟩ := h k x hx
  exact ⟨b, o, e, by omega, hc⟩
theorem Row.nil_ {w : World} {B : Nat} {a : Option Addr} : Row w B a [] := fun k x hx => by simp at hx
theorem Row.owned {w : World} {base : Nat} {e : TypeId} {n : Nat} {a : Option Addr} {c : Nat} {xs : List Value} (h : w.ownsRow base e 1 (.slice a n c) n xs) : Row w w.heap.size a xs := by
  intro k x hx
  rcases h.2 with ⟨hv, hn⟩ | ⟨g, cap, cur, hv, _, hg, _⟩
  · have hl := h.1
    rw [hn] at hl
    have : xs = [] := List.eq_nil_of_length_eq_zero (by simpa using hl)
    rw [this] at hx
    simp at hx
  · injection hv with ha _ _
    refine ⟨g, 0, ha, ?_, ?_⟩
    · rcases Nat.lt_or_ge g w.heap.size with h1 | h1
      · exact h1
      · rw [Array.getElem?_eq_none h1] at hg; cases hg
    · have hc := h.cells (g := g) (by subst ha; rfl) k x hx
      rw [add_plain] at hc
      exact hc

/-- Behind an append to a row of the call's own: what lies below is as it was. -/
theorem own_cell {wr w1 : World} {B e m : Nat} {v : Value} {xs : List Value} {p : Addr} {x : Value} (hown : wr.ownsRow B e 1 v m xs) (hg : wr.grownBy w1 v.ownBlock) (hp : p.block < B) (hc : wr.cell? p = some x) : w1.cell? p = some x :=
  hg.cell hc fun h => by have := (hown.lt _ h.symm).1; omega
theorem own_below {w wr w1 : World} {B e m : Nat} {v : Value} {xs : List Value} (hown : wr.ownsRow B e 1 v m xs) (hg : wr.grownBy w1 v.ownBlock) (hB : B ≤ wr.heap.size) (hb : Below B w wr) : Below B w w1 :=
  hb.grown hg hB fun k hk => (hown.lt k hk).1

theorem own_base {w : World} {base base' e size n : Nat} {v : Value} {xs : List Value} (h : w.ownsRow base e size v n xs) (hb : base' ≤ base) : w.ownsRow base' e size v n xs :=
  ⟨h.1, h.2.imp id fun ⟨g, cap, cur, a, b, r⟩ => ⟨g, cap, cur, a, Nat.le_trans hb b, r⟩⟩
theorem own_keeps {w w' : World} {base e size n : Nat} {v : Value} {xs : List Value} (h : w.ownsRow base e size v n xs) (hb : Below w.heap.size w w') : w'.ownsRow base e size v n xs :=
  h.kept (row := none) ⟨hb.os, hb.tape, hb.output, hb.size, fun k hk _ => hb.block k hk⟩ (by cases hv : v.ownBlock <;> simp)
theorem below_draws {B : Nat} {a w : World} (h : Below B a w) (n : Nat) : Below B a (w.drewN n) := ⟨h.os, h.tape, h.output, h.size, h.block⟩

/-- Every argument reads behind the call as it did before, if nothing old has turned. -/
theorem trodAll_stay {H : Type} {enc : TypeId × Value → H} {P : Program} (hl : laidOutB P = true) {W W' : World} (hb : Below W.heap.size W W') :
    ∀ {ts : List TypeId} {vs : List Value} {ds : List (DataW H)} {ps : List MemPlace}, (ts.all fun t => P.readableRec t && decide (t < P.types.size)) = true → (∀ x ∈ ps, x.block < W.heap.size) →
      DataW.TrodAll enc P W 0 (fun _ => true) true ts vs ds ps → DataW.TrodAll enc P W' 0 (fun b => decide (b < W.heap.size)) true ts vs ds ps
  | [], [], [], _, _, _, h => h
  | [], [], _ :: _, _, _, _, h => h.elim
  | [], _ :: _, _, _, _, _, h => h.elim
  | _ :: _, [], _, _, _, _, h => h.elim
  | _ :: _, _ :: _, [], _, _, _, h => h.elim
  | t :: ts, v :: vs, d :: ds, ps, hr, hlt, h => by
    obtain ⟨p, q, h0, hs, rfl⟩ := h
    simp only [List.all_cons, Bool.and_eq_true, decide_eq_true_eq] at hr
    exact ⟨p, q, Below.trod hl hr.1.1 hr.1.2 h0 hb (fun x hx => hlt x (by simp [hx])), trodAll_stay hl hb hr.2 (fun x hx => hlt x (by simp [hx])) hs, rfl⟩

/-- A law's last step: it returned true, and nothing that was there has turned. -/
theorem law_post {H : Type} {enc : TypeId × Value → H} {P : Program} (hl : laidOutB P = true) {f : Func} {s : ChangeSpec} {W W' : World} {args : Array Value} {ds gs : List (DataW H)} {before : List MemPlace} {bt : TypeId}
    (hvars : s.vars = []) (hp : (f.params.toList.all fun t => P.readableRec t && decide (t < P.types.size)) = true) (hres : f.resultTypes = #[bt]) (hbt : P.underlying bt = some .bool)
    (hW : DataW.Whole enc P f.params.toList s.vars false W args.toList ds gs before) (hfn : s.fn H ds = { results := [.lit (.bool true)], args := ds }) (hb : Below W.heap.size W W') :
    s.post enc P f false true false false W args (.bool true) W' := by
  have hW' := hW
  obtain ⟨p, q, hA, hV, rfl, _, _⟩ := hW
  rw [hvars] at hV
  obtain ⟨rfl, rfl⟩ := trodVars_none hV
  simp only [List.append_nil] at hW'
  have hlt : ∀ x ∈ p, x.block < W.heap.size := fun x hx => by simpa using hW'.lt x hx
  refine ⟨ds, [], p, [], p, [], hW', ?_, ?_, ?_, hb.frame _, fun h => by cases h⟩
  · rw [List.append_nil, hfn, hres]
    exact trodAll_mk1 (shut_bool hbt true)
  · rw [List.append_nil, hfn]
    exact trodAll_stay hl hb hp hlt hA
  · rw [hvars, List.append_nil, hfn]
    rfl

theorem str_ne_false {a b : ByteArray} (h : a = b) : (a != b) = false := by
  rw [bne, (MapKept.bytes_beq a b).2 h]
  rfl
theorem str_ne_true {a b : ByteArray} (h : a ≠ b) : (a != b) = true := by
  rw [bne]
  cases hh : (a == b) with
  | false => rfl
  | true => exact absurd ((MapKept.bytes_beq a b).1 hh) h
theorem bytes_of_list {l : List UInt8} {s : ByteArray} (h : l = s.data.toList) : (⟨l.toArray⟩ : ByteArray) = s := by
  subst h
  rfl
theorem list_of_bytes {l : List UInt8} {s : ByteArray} (h : (⟨l.toArray⟩ : ByteArray) = s) : l = s.data.toList := by
  subst h
  rfl

theorem lists_eq {l : List UInt8} {s : ByteArray} (h : l = s.data.toList) : (l == s.toList) = true := by
  rw [ByteArray.toList_eq, h]
  simp
theorem lists_ne {l : List UInt8} {s : ByteArray} (h : ¬ l = s.data.toList) : (l == s.toList) = false := by
  rw [ByteArray.toList_eq]
  simpa using h

theorem i64_bounds {n : Int} (h : (Lit.int .i64 n).wf = true) : -9223372036854775808 ≤ n ∧ n ≤ 9223372036854775807 := by
  simp [Lit.wf, IntKind.min, IntKind.max, IntKind.signed, IntKind.bits] at h
  omega

theorem u8_bounds {n : Int} (h : (Lit.int .u8 n).wf = true) : 0 ≤ n ∧ n ≤ 255 := by
  simp [Lit.wf, IntKind.min, IntKind.max, IntKind.signed, IntKind.bits] at h
  omega

/-- Strings as cells; the sum of their lengths. -/
def strVals (ss : List ByteArray) : List Value := ss.map Value.string
theorem strVals_snoc (l : List ByteArray) (x : ByteArray) : strVals (l ++ [x]) = strVals l ++ [.string x] := by simp [strVals]
def total (ss : List ByteArray) : Nat := (ss.map ByteArray.size).sum
theorem total_append (a b : List ByteArray) : total (a ++ b) = total a + total b := by simp [total]
theorem total_one (s : ByteArray) : total [s] = s.size := by simp [total]
theorem take_next {α : Type} (l : List α) (k : Nat) (h : k < l.length) : l.take (k + 1) = l.take k ++ [l[k]] := by
  rw [List.take_succ_eq_append_getElem h]
theorem total_take_next (ss : List ByteArray) (k : Nat) (h : k < ss.length) : total (ss.take (k + 1)) = total (ss.take k) + ss[k].size := by
  rw [take_next ss k h, total_append, total_one]

/-- A []string argument, opened: its strings, their cells, their bounds. -/
theorem open_strs {H : Type} {enc : TypeId × Value → H} {P : Program} {W : World} {t e : TypeId} {v : Value} {d : DataW H} {ps : List MemPlace} {base : Nat}
    (ht : P.underlying t = some (.slice e)) (he : P.underlying e = some .string) (hc : P.cellsOf e = 1) (hlt : ∀ x ∈ ps, x.block < W.heap.size)
    (hval : Value.okWide P W .any base t v) (h : DataW.Trod enc P W 0 (fun _ => true) true t v d ps) :
    ∃ (a : Option Addr) (cap : Nat) (ss : List ByteArray), v = .slice a ss.length cap ∧ ss.length ≤ cap ∧ ss.length ≤ maxLen ∧ Row W W.heap.size a (strVals ss) ∧ (∀ s ∈ ss, s.size ≤ maxLen) ∧
      (d = .nil ∨ ∃ sp, d = .slice (strs ss) sp) ∧ (a = none → ss = [] ∧ cap = 0) := by
  obtain ⟨a0, len, cap, rfl⟩ := okWide_slice ht hval
  obtain ⟨fuel, hf⟩ := h
  rcases open_strings ht he hc hf with ⟨hcs, hx⟩ | ⟨a, len', cap', ss, hcs, _, hl, hm, hz, hx, hcell, hws⟩
  · simp [Value.cells] at hcs
    obtain ⟨rfl, rfl, rfl⟩ := hcs
    simp only [Prod.mk.injEq] at hx
    exact ⟨none, 0, [], rfl, Nat.le_refl _, Nat.zero_le _, Row.nil_, (fun s hs => by simp at hs), .inl hx.1, fun _ => ⟨rfl, rfl⟩⟩
  · simp [Value.cells] at hcs
    obtain ⟨rfl, rfl, rfl⟩ := hcs
    simp only [Prod.mk.injEq] at hx
    obtain ⟨rfl, rfl⟩ := hx
    simp only [if_true] at hz
    have hlen : (ss.take len).length = len := by simp; omega
    refine ⟨some a, cap, ss.take len, by rw [hlen], by omega, by omega, ?_, fun s hs => hws s (List.mem_of_mem_take hs), .inr ⟨_, rfl⟩, fun h => by cases h⟩
    intro k x hx
    obtain ⟨hk, rfl⟩ := List.getElem?_eq_some_iff.1 hx
    have hk' : k < len := by simpa [strVals, hz] using (Nat.lt_of_lt_of_le hk (by simp [strVals]; omega) : k < len)
    obtain ⟨b, off, spot⟩ := a
    have hspot : spot = none := by simpa [Addr.add] using World.cell?_spot (hcell 0 (by omega))
    subst hspot
    refine ⟨b, off, rfl, hlt (.cell b (off + 0)) (MemPlace.mem_row.2 ⟨0, by omega, by simp⟩), ?_⟩
    rw [← add_plain, hcell k (by omega)]
    have hk2 : k < ss.length := by omega
    simp [strVals, List.getD, hk2]
end Go.Proofs.YtpmmjaceehlpiaaDoor
/-
  Rows that lie apart: the law's copy of its argument, the program's answer, the model's answer: each turns alone. Nothing here knows of the program.
-/
namespace Go.Proofs.YtpmmjaceehlpiaaDoor
open Go Go.RowKit

theorem own_other {w w' : World} {base e size n : Nat} {v : Value} {xs : List Value} {row : Option Nat} (h : w.ownsRow base e size v n xs) (hg : w.grownBy w' row) (hne : ∀ k, v.ownBlock = some k → some k ≠ row) : w'.ownsRow base e size v n xs := by
  refine ⟨h.1, h.2.imp id ?_⟩
  rintro ⟨g, cap, cur, rfl, hb, hgc, r⟩
  refine ⟨g, cap, cur, rfl, hb, ?_, r⟩
  have hlt : g < w.heap.size := by
    rcases Nat.lt_or_ge g w.heap.size with h1 | h1
    · exact h1
    · rw [Array.getElem?_eq_none h1] at hgc; cases hgc
  rw [hg.block g hlt (hne g rfl)]
  exact hgc
theorem grown_self (w : World) (r : Option Nat) : w.grownBy w r := ⟨rfl, rfl, rfl, Nat.le_refl _, fun _ _ _ => rfl⟩
theorem grown_cell {w W : World} {g i : Nat} {u : Value} (h : w.grownBy W (some g)) : w.grownBy (W.setCell ⟨g, i, none⟩ u) (some g) :=
  ⟨h.os, h.tape, h.output, by simpa using h.size, fun k hk hne => (heap_setCell_other W ⟨g, i, none⟩ k _ (fun e => hne (by simp [e]))).trans (h.block k hk hne)⟩

/-- The copy (x, at block s2), the answer (g, from s3 on), the model's answer (p, below s2). -/
structure Trio (W0 W : World) (s2 s3 : Nat) (ex : TypeId) (xn : Nat) (xs : List Value) (eg : TypeId) (vg : Value) (m : Nat) (gs : List Value) (ap : Option Addr) (ps : List Value) : Prop where
  x : W.ownsRow s2 ex 1 (.slice (some ⟨s2, 0, none⟩) xn xn) xn xs
  g : W.ownsRow s3 eg 1 vg m gs
  p : Row W s2 ap ps
  lt : s2 < s3
  le : s3 ≤ W.heap.size
  old : W0.heap.size ≤ s2
  below : Below W0.heap.size W0 W

section
variable {W0 W W' : World} {s2 s3 : Nat} {ex : TypeId} {xn : Nat} {xs : List Value} {eg : TypeId} {vg : Value} {m : Nat} {gs : List Value} {ap : Option Addr} {ps : List Value}

theorem Trio.call (h : Trio W0 W s2 s3 ex xn xs eg vg m gs ap ps) (hb : Below W.heap.size W W') : Trio W0 W' s2 s3 ex xn xs eg vg m gs ap ps := by
  have := h.le
  have := h.lt
  have := h.old
  exact ⟨own_keeps h.x hb, own_keeps h.g hb, h.p.keeps fun _ hp => hb.cell (by omega), h.lt, Nat.le_trans h.le hb.size, h.old, h.below.trans (hb.mono (by omega))⟩
theorem Trio.draws (h : Trio W0 W s2 s3 ex xn xs eg vg m gs ap ps) (n : Nat) : Trio W0 (W.drewN n) s2 s3 ex xn xs eg vg m gs ap ps := h.call (below_draws (Below.refl _ _) n)
theorem Trio.markX {xs' : List Value} (h : Trio W0 W s2 s3 ex xn xs eg vg m gs ap ps) (hg : W.grownBy W' (some s2)) (hx : W'.ownsRow s2 ex 1 (.slice (some ⟨s2, 0, none⟩) xn xn) xn xs') : Trio W0 W' s2 s3 ex xn xs' eg vg m gs ap ps := by
  have := h.le
  have := h.lt
  have := h.old
  refine ⟨hx, own_other h.g hg fun k hk e => ?_, h.p.keeps fun p hp => World.cell?_of_block (hg.block _ (by omega) fun e => ?_), h.lt, Nat.le_trans h.le hg.size, h.old, h.below.grown hg (by omega) fun k hk => by cases hk; exact h.old⟩
  · have := (h.g.lt k hk).1
    cases e
    omega
  · injection e with e
    omega
theorem Trio.markG {gs' : List Value} (h : Trio W0 W s2 s3 ex xn xs eg vg m gs ap ps) (hg : W.grownBy W' vg.ownBlock) (hx : W'.ownsRow s3 eg 1 vg m gs') : Trio W0 W' s2 s3 ex xn xs eg vg m gs' ap ps := by
  have := h.le
  have := h.lt
  have := h.old
  refine ⟨own_other h.x hg fun k hk e => ?_, hx, h.p.keeps fun p hp => World.cell?_of_block (hg.block _ (by omega) fun e => ?_), h.lt, Nat.le_trans h.le hg.size, h.old, h.below.grown hg (by omega) fun k hk => ?_⟩
  · have := (h.g.lt k e.symm).1
    have hk' : s2 = k := Option.some.inj hk
    omega
  · have := (h.g.lt _ e.symm).1
    omega
  · have := (h.g.lt k hk).1
    omega
theorem Trio.rowX (h : Trio W0 W s2 s3 ex xn xs eg vg m gs ap ps) : Row W W.heap.size (some ⟨s2, 0, none⟩) xs := Row.owned h.x
theorem Trio.rowG {a : Option Addr} {c : Nat} (h : Trio W0 W s2 s3 ex xn xs eg (.slice a m c) m gs ap ps) : Row W W.heap.size a gs := Row.owned h.g
theorem Trio.rowP (h : Trio W0 W s2 s3 ex xn xs eg vg m gs ap ps) : Row W W.heap.size ap ps := h.p.grow (Nat.le_trans (Nat.le_of_lt h.lt) h.le)
theorem Trio.rowOld {a : Option Addr} {zs : List Value} (h : Trio W0 W s2 s3 ex xn xs eg vg m gs ap ps) (hr : Row W0 W0.heap.size a zs) : Row W W.heap.size a zs := (hr.below h.below).grow h.below.size
end
end Go.Proofs.YtpmmjaceehlpiaaDoor
/-
  Decimal digits as the model's loop makes them; a byte of the call's own turned into a string. Nothing here knows of the program.
-/
namespace Go.Proofs.YtpmmjaceehlpiaaDoor
open Go Go.ChangeShapes Go.WideShapes Go.ChangeAt Go.RowKit

/-- The digits that are still to come: none of 0. -/
def digs (u : Nat) : List UInt8 := if u = 0 then [] else Lib.decDigits u
theorem digs_zero : digs 0 = [] := rfl
theorem digs_pos {u : Nat} (h : 0 < u) : digs u = Lib.decDigits u := by unfold digs; rw [if_neg (by omega)]
theorem digs_next {u : Nat} (h : 0 < u) : digs u = digs (u / 10) ++ [UInt8.ofNat (48 + u % 10)] := by
  by_cases h10 : u < 10
  · rw [digs_pos h, Lib.decDigits_one h10, show u / 10 = 0 by omega, digs_zero, show u % 10 = u by omega]
    rfl
  · rw [digs_pos h, digs_pos (show 0 < u / 10 by omega), Lib.decDigits, dif_neg h10]

theorem digs_length : ∀ (k u : Nat), u ≤ k → (digs u).length ≤ u
  | 0, u, h => by
    obtain rfl : u = 0 := by omega
    simp [digs_zero]
  | k + 1, u, h => by
    by_cases h0 : 0 < u
    · have ih := digs_length k (u / 10) (by omega)
      rw [digs_next h0, List.length_append, List.length_singleton]
      omega
    · obtain rfl : u = 0 := by omega
      simp [digs_zero]
/-- While digits are still to come, one more fits. -/
theorem digs_room {u N : Nat} {l : List UInt8} (h0 : 0 < u) (h : digs u ++ l = digs N) : 1 + l.length ≤ N / 10 + 1 := by
  have h1 := congrArg List.length h
  rw [digs_next h0, List.length_append, List.length_append, List.length_singleton] at h1
  by_cases hN : 0 < N
  · rw [digs_next hN, List.length_append, List.length_singleton] at h1
    have h2 := digs_length (N / 10) (N / 10) (Nat.le_refl _)
    omega
  · obtain rfl : N = 0 := by omega
    simp [digs_zero] at h1
theorem bytes_cons (x : UInt8) (l : List UInt8) : (⟨#[x]⟩ : ByteArray) ++ ⟨l.toArray⟩ = ⟨(x :: l).toArray⟩ := by
  apply ByteArray.ext
  simp

theorem byte_split (k : Nat) : UInt8.ofNat (48 + k) = 48 + UInt8.ofNat k := by
  simp

theorem tmod_neg (u : Nat) : (-(u : Int)).tmod 10 = -((u % 10 : Nat) : Int) := by
  rw [Int.neg_tmod, Int.tmod_eq_emod_of_nonneg (by omega)]
  omega
theorem tdiv_neg (u : Nat) : (-(u : Int)).tdiv 10 = -((u / 10 : Nat) : Int) := by
  rw [Int.neg_tdiv, Int.tdiv_eq_ediv_of_nonneg (by omega)]
  omega

/-- string of one byte that was just made. -/
theorem conv_byte {P : Program} {src dst e : TypeId} (hs : P.underlying src = some (.slice e)) (he : P.underlying e = some (.int .u8)) (hd : P.underlying dst = some .string) (W : World) (x : Nat) (hx : x < 256) :
    (convert src dst (.slice (some ⟨W.heap.size, 0, none⟩) 1 1)).run P (W.alloc (.cells #[.int .u8 (x : Int)] e)) = .ok (.string ⟨#[UInt8.ofNat x]⟩) (W.alloc (.cells #[.int .u8 (x : Int)] e)) := by
  have h := run_convert_bytes_back (P := P) (W.alloc (.cells #[.int .u8 (x : Int)] e)) src dst e ⟨W.heap.size, 0, none⟩ 1 [UInt8.ofNat x] hs he hd (fun j hj => by
    have : j = 0 := by simpa using hj
    subst this
    have hn : (UInt8.ofNat x).toNat = x := by simp; omega
    rw [add_plain]
    simp only [List.getElem_cons_zero, hn, Nat.zero_add]
    exact World.cell?_alloc_at _ _ _ _ rfl)
  exact h
end Go.Proofs.YtpmmjaceehlpiaaDoor
/-
  The law's comparison of two []string: true where both hold the same strings.
-/
namespace Go.Proofs.YtpmmjaceehlpiaaDoor
open Go Go.RowKit

/-- It answers true, and the world is as it was, but for draws. -/
def SameEnd (r : Bool) (w : World) (e : Ending) (w' : World) : Prop := ∃ n, e = .returned (.bool r) ∧ w' = w.drewN n

set_option maxHeartbeats 400000 in
theorem eqStrs (a b : Option Addr) (ca cb : Nat) (ss : List ByteArray) (w : World) (hn : ss.length ≤ maxLen) (ha : Row w w.heap.size a (strVals ss)) (hb : Row w w.heap.size b (strVals ss)) :
    Calls Tryd.prog 24 #[.slice a ss.length ca, .slice b ss.length cb] w (SameEnd true w) := by
  unfold maxLen at hn
  go_enter Tryd.func24, Tryd.ntmps24
  go_wp2
  go_loopw [5] (fun i wr => ∃ (k n : Nat), k ≤ ss.length ∧ i = .int .i64 k ∧ wr = w.drewN n) (fun i _ => ss.length - (intOf i).toNat)
  case atStart => exact ⟨0, 0, Nat.zero_le _, rfl, rfl⟩
  case round =>
    obtain ⟨k, n, hk, rfl, rfl⟩ := hrel
    by_cases hlt : k < ss.length
    · obtain ⟨ba, oa, rfl, _, hca⟩ := ha k (.string ss[k]) (by simp [strVals, hlt])
      obtain ⟨bb, ob, rfl, _, hcb⟩ := hb k (.string ss[k]) (by simp [strVals, hlt])
      go_wp2
      go_quiet (fail)
      go_wp2
      go_roundw
      case rel => exact ⟨k + 1, _, by omega, by go_num, rfl⟩
      case measure => simp [intOf]; omega
    · go_wp2
      go_ret
      exact ⟨_, rfl, rfl⟩
end Go.Proofs.YtpmmjaceehlpiaaDoor
/-
  What a listed table gives the walks: a package-level variable of arrays, structs, numbers, bools and strings that reads as a known datum holds just the cells of that datum. Nothing here knows of the program.
-/
namespace Go.Proofs.YtpmmjaceehlpiaaDoor
open Go Go.RowKit Go.ChangeShapes Go.WideShapes Go.ChangeAt

mutual
/-- The cells of a plain datum. -/
def flat : DataW Unit → List Value
  | .lit (.int k n) => [.int k n]
  | .lit (.bool b) => [.bool b]
  | .lit (.string l) => [.string ⟨l.toArray⟩]
  | .agg parts => flatAll parts
  | _ => []
def flatAll : List (DataW Unit) → List Value
  | [] => []
  | d :: r => flat d ++ flatAll r
end
theorem flatAll_eq (ds : List (DataW Unit)) : flatAll ds = ds.flatMap flat := by
  induction ds with
  | nil => rfl
  | cons d r ih => simp [flatAll, ih]

/-- Fields that lie one behind the other. -/
def closeB (P : Program) : Nat → List Field → Nat → Bool
  | o, [], n => o == n
  | o, f :: r, n => f.offset == o && closeB P (o + P.cellsOf f.type) r n
/-- A type of arrays, structs, numbers, bools and strings, its parts one behind the other. -/
def flatB (P : Program) : Nat → TypeId → Bool
  | 0, _ => false
  | m + 1, t => match P.underlying t with
    | some (.int _) | some .bool | some .string => true
    | some (.array n e) => P.cellsOf t == n * P.cellsOf e && flatB P m e
    | some (.struct fs) => closeB P 0 fs.toList (P.cellsOf t) && fs.toList.all fun f => flatB P m f.type
    | _ => false

theorem split_even {α : Type} (c : Nat) : ∀ (n : Nat) (l : List α), l.length = n * c → l = (List.range n).flatMap fun i => (l.drop (i * c)).take c
  | 0, l, h => by simp at h; simp [h]
  | n + 1, l, h => by
    have h1 := split_even c n (l.drop c) (by simp [h]; rw [Nat.add_mul]; omega)
    have h2 : ((List.range n).flatMap fun i => ((l.drop c).drop (i * c)).take c) = (List.range n).flatMap fun i => (l.drop ((i + 1) * c)).take c := by
      congr 1
      funext i
      rw [List.drop_drop, Nat.add_mul, Nat.one_mul, Nat.add_comm]
    rw [List.range_succ_eq_map, List.flatMap_cons, List.flatMap_map, Nat.zero_mul, List.drop_zero]
    exact ((List.take_append_drop c l).symm).trans (congrArg (l.take c ++ ·) (h1.trans h2))

theorem split_close {P : Program} {α : Type} : ∀ (fs : List Field) (o n : Nat) (l : List α), closeB P o fs n = true → l.length = n → l.drop o = fs.flatMap fun f => (l.drop f.offset).take (P.cellsOf f.type)
  | [], o, n, l, h, hl => by
    simp [closeB] at h
    simp [List.drop_eq_nil_iff]
    omega
  | f :: r, o, n, l, h, hl => by
    simp only [closeB, Bool.and_eq_true, beq_iff_eq] at h
    rw [List.flatMap_cons, ← split_close r _ n l h.2 hl, h.1, ← List.drop_drop, List.take_append_drop]

theorem zip_flat {α β γ : Type} {f : α → List γ} {g : β → List γ} : ∀ (as : List α) (xs : List β), as.length = xs.length → (∀ (i : Nat) a x, as[i]? = some a → xs[i]? = some x → f a = g x) → as.flatMap f = xs.flatMap g
  | [], [], _, _ => rfl
  | [], _ :: _, h, _ => by simp at h
  | _ :: _, [], h, _ => by simp at h
  | a :: as, x :: xs, h, hf => by
    rw [List.flatMap_cons, List.flatMap_cons, hf 0 a x rfl rfl, zip_flat as xs (by simpa using h) fun i b y hb hy => hf (i + 1) b y (by simpa using hb) (by simpa using hy)]

theorem flat_agg (xs : List (DataW Unit × List MemPlace)) : flat (.agg (xs.map (·.1))) = xs.flatMap fun x => flat x.1 := by
  rw [flat, flatAll_eq, List.flatMap_map]

theorem flat_of_trod {P : Program} {w : World} {base : Nat} {sp : Nat → Bool} {held : Bool} {enc : TypeId × Value → Unit} : ∀ (m : Nat) {fuel : Nat} {t : TypeId} {cs : List Value} {d : DataW Unit} {p : List MemPlace},
    flatB P m t = true → DataW.trod enc P w base sp held fuel t cs = some (d, p) → cs = flat d
  | 0, _, _, _, _, _, hf, _ => by simp [flatB] at hf
  | m + 1, fuel, t, cs, d, p, hf, h => by
    unfold flatB at hf
    split at hf
    · rename_i k hk
      obtain ⟨n, rfl, hx, _⟩ := DataW.trod_int hk h
      simp only [Prod.mk.injEq] at hx
      rw [hx.1]; rfl
    · rename_i hk
      obtain ⟨b, rfl, hx⟩ := DataW.trod_bool hk h
      simp only [Prod.mk.injEq] at hx
      rw [hx.1]; rfl
    · rename_i hk
      obtain ⟨s, rfl, hx, _⟩ := DataW.trod_string hk h
      simp only [Prod.mk.injEq] at hx
      rw [hx.1]
      simp [flat]
    · rename_i n e hk
      simp only [Bool.and_eq_true, beq_iff_eq] at hf
      obtain ⟨xs, m', rfl, hx, hlen, hn, hel⟩ := DataW.trod_array hk h
      simp only [Prod.mk.injEq] at hx
      rw [hx.1, flat_agg, split_even (P.cellsOf e) n cs (by rw [hlen, hf.1])]
      refine zip_flat _ _ (by simp [hn]) fun i a x ha hxi => ?_
      obtain ⟨hi, rfl⟩ : i < n ∧ a = i := by
        rw [List.getElem?_eq_some_iff] at ha
        obtain ⟨h1, h2⟩ := ha
        simp at h1 h2
        exact ⟨h1, h2.symm⟩
      exact flat_of_trod m hf.2 ((hel a hi).trans hxi)
    · rename_i fs hk
      simp only [Bool.and_eq_true, List.all_eq_true] at hf
      obtain ⟨xs, m', rfl, hx, hlen, hn, hel⟩ := DataW.trod_struct hk h
      simp only [Prod.mk.injEq] at hx
      have hs := split_close fs.toList 0 _ cs hf.1 hlen
      rw [List.drop_zero] at hs
      rw [hx.1, flat_agg, hs]
      refine zip_flat _ _ (by simp [hn]) fun i a x ha hxi => ?_
      exact flat_of_trod m (hf.2 a (List.mem_of_getElem? ha)) ((hel i a (by simpa using ha)).trans hxi)
    · cases hf

/-- A listed variable of a flat type holds the cells of its datum. -/
theorem laid_at {P : Program} {W : World} : ∀ {l : List (String × DataW Unit)} (i : Nat) {name : String} {d : DataW Unit} {g : Nat} {t : TypeId}, laidMet P l W → l[i]? = some (name, d) → P.globalNamed name = some g → (P.globals[g]?).map (·.type) = some t → flatB P 8 t = true →
    W.var? P name = some (flat d).toArray
  | [], i, _, _, _, _, _, hi, _, _, _ => by simp at hi
  | x :: l, i + 1, _, _, _, _, h, hi, hg, ht, hf => laid_at i h.tail (by simpa using hi) hg ht hf
  | (n, e) :: l, 0, name, d, g, t, h, hi, hg, ht, hf => by
    obtain ⟨rfl, rfl⟩ : n = name ∧ e = d := by simpa using hi
    obtain ⟨ps, ⟨g', t', cs, fuel, p, q, hg', ht', hvar, hd, _, _⟩, _⟩ := h
    obtain rfl := Option.some.inj (hg.symm.trans hg')
    obtain rfl := Option.some.inj (ht.symm.trans ht')
    rw [hvar, ← flat_of_trod 8 hf hd]

/-- The first of the named variables' data. -/
theorem gs_cons {H : Type} {enc : TypeId × Value → H} {P : Program} {w : World} {sp : Nat → Bool} {n : String} {ns : List String} {gs : List (DataW H)} {ps : List MemPlace} (h : DataW.TrodVars enc P w sp (n :: ns) gs ps) :
    ∃ d ds q, gs = d :: ds ∧ DataW.TrodVars enc P w sp ns ds q := by
  cases gs with
  | nil => exact h.elim
  | cons d ds =>
    obtain ⟨g, t, cs, fuel, p, q, _, _, _, _, hs, _⟩ := h
    exact ⟨d, ds, q, rfl, hs⟩

theorem var_stays {P : Program} {w w' : World} {n : String} {cs : Array Value} (h : w.var? P n = some cs) (hb : Below w.heap.size w w') : w'.var? P n = some cs := by
  unfold World.var? at h ⊢
  cases hg : P.globalNamed n with
  | none => simp [hg] at h
  | some g =>
    simp only [hg, Option.bind_some] at h ⊢
    have hlt : g < w.heap.size := by
      rcases Nat.lt_or_ge g w.heap.size with h' | h'
      · exact h'
      · simp [Array.getElem?_eq_none h'] at h
    rw [hb.block g hlt]
    exact h

/-- A law's last step where its row names variables of the program's own: it returned true, and nothing that was there has turned. -/
theorem law_post_vars {H : Type} {enc : TypeId × Value → H} {P : Program} (hl : laidOutB P = true) {f : Func} {s : ChangeSpec} {W W' : World} {args : Array Value} {ds gs : List (DataW H)} {before : List MemPlace} {bt : TypeId}
    (hvars : varsRowed P s.vars = true) (hp : (f.params.toList.all fun t => P.readableRec t && decide (t < P.types.size)) = true) (hres : f.resultTypes = #[bt]) (hbt : P.underlying bt = some .bool)
    (hW : DataW.Whole enc P f.params.toList s.vars false W args.toList ds gs before) (hfn : s.fn H (ds ++ gs) = { results := [.lit (.bool true)], args := ds, vars := gs }) (hb : Below W.heap.size W W') :
    s.post enc P f false true false false W args (.bool true) W' := by
  have hW' := hW
  obtain ⟨p, q, hA, hV, rfl, _, _⟩ := hW
  have hlt : ∀ x ∈ p, x.block < W.heap.size := fun x hx => hW'.lt x (by simp [hx])
  refine ⟨ds, gs, p ++ q, [], p, q, hW', ?_, ?_, ?_, hb.frame _, fun h => by cases h⟩
  · rw [hfn, hres]
    exact trodAll_mk1 (shut_bool hbt true)
  · rw [hfn]
    exact trodAll_stay hl hb hp hlt hA
  · rw [hfn]
    exact Below.trodVars hl hb hvars hV
end Go.Proofs.YtpmmjaceehlpiaaDoor
/-
  Rows of ints: their cells, a []int argument opened, one cell behind an append. Nothing here knows of the program.
-/
namespace Go.Proofs.YtpmmjaceehlpiaaDoor
open Go Go.ChangeShapes Go.WideShapes Go.ChangeAt Go.RowKit

def intVals (ns : List Int) : List Value := ns.map (Value.int .i64)
theorem intVals_snoc (l : List Int) (x : Int) : intVals (l ++ [x]) = intVals l ++ [.int .i64 x] := by simp [intVals]
theorem intVals_length (l : List Int) : (intVals l).length = l.length := by simp [intVals]
theorem intVals_at (l : List Int) (k : Nat) (h : k < l.length) : (intVals l)[k]? = some (.int .i64 l[k]) := by simp [intVals, h]

theorem oneCell_at {w : World} {e : TypeId} (x : Value) : ∀ (j : Nat) (u : Value), [x][j]? = some u → (w.alloc (.cells #[x] e)).cell? ((⟨w.heap.size, 0, none⟩ : Addr).add j) = some u := by
  intro j u hu
  match j, hu with
  | 0, hu =>
    simp at hu
    subst hu
    simp [Addr.add]
  | j + 1, hu => simp at hu
theorem oneCell_int (x : Int) : ∀ u ∈ [Value.int .i64 x], u.oneCell' = true := by
  intro u hu
  simp at hu
  subst hu
  rfl
theorem oneCell_str (x : ByteArray) : ∀ u ∈ [Value.string x], u.oneCell' = true := by
  intro u hu
  simp at hu
  subst hu
  rfl

/-- A row that a call has built: nil, or a block of its own. -/
def Built (base : Nat) (e : TypeId) (xs : List Value) (w : World) (en : Ending) (w' : World) : Prop :=
  ∃ a cap, en = .returned (.slice a xs.length cap) ∧ xs.length ≤ cap ∧ w'.ownsRow base e 1 (.slice a xs.length cap) xs.length xs ∧ Below base w w'
theorem built_end {w w' : World} {base : Nat} {e : TypeId} {v : Value} {n : Nat} {xs : List Value} (hn : n = xs.length) (h : w'.ownsRow base e 1 v n xs) (hb : Below base w w') : Built base e xs w (.returned v) w' := by
  subst hn
  rcases h.2 with ⟨rfl, h0⟩ | ⟨g, cap, cur, rfl, hbg, hg, hnc, hcm, hcs, ht⟩
  · refine ⟨none, 0, ?_, by omega, ?_, hb⟩
    · rw [h0]
    · rw [h0] at h ⊢
      exact h
  · exact ⟨_, cap, rfl, hnc, h, hb⟩

/-- A []int argument, opened: its numbers, their cells, their bounds. -/
theorem open_nums {H : Type} {enc : TypeId × Value → H} {P : Program} {W : World} {t e : TypeId} {v : Value} {d : DataW H} {ps : List MemPlace} {base : Nat}
    (ht : P.underlying t = some (.slice e)) (he : P.underlying e = some (.int .i64)) (hc : P.cellsOf e = 1) (hlt : ∀ x ∈ ps, x.block < W.heap.size)
    (hval : Value.okWide P W .any base t v) (h : DataW.Trod enc P W 0 (fun _ => true) true t v d ps) :
    ∃ (a : Option Addr) (cap : Nat) (ns : List Int), v = .slice a ns.length cap ∧ ns.length ≤ cap ∧ ns.length ≤ maxLen ∧ Row W W.heap.size a (intVals ns) ∧ (∀ n ∈ ns, -9223372036854775808 ≤ n ∧ n ≤ 9223372036854775807) ∧ (a = none → ns = [] ∧ cap = 0) := by
  obtain ⟨a0, len, cap, rfl⟩ := okWide_slice ht hval
  obtain ⟨fuel, hf⟩ := h
  rcases open_ints ht he hc hf with ⟨hcs, hx⟩ | ⟨a, len', cap', zs, hcs, _, hl, hm, hz, hx, hcell, hws⟩
  · simp [Value.cells] at hcs
    obtain ⟨rfl, rfl, rfl⟩ := hcs
    exact ⟨none, 0, [], rfl, Nat.le_refl _, Nat.zero_le _, Row.nil_, (fun s hs => by simp at hs), fun _ => ⟨rfl, rfl⟩⟩
  · simp [Value.cells] at hcs
    obtain ⟨rfl, rfl, rfl⟩ := hcs
    simp only [Prod.mk.injEq] at hx
    obtain ⟨rfl, rfl⟩ := hx
    simp only [if_true] at hz
    have hlen : (zs.take len).length = len := by simp; omega
    refine ⟨some a, cap, zs.take len, by rw [hlen], by omega, by omega, ?_, fun s hs => i64_bounds (hws s (List.mem_of_mem_take hs)), fun h => by cases h⟩
    intro k x hx
    obtain ⟨hk, rfl⟩ := List.getElem?_eq_some_iff.1 hx
    have hk' : k < len := by simpa [intVals, hz] using (Nat.lt_of_lt_of_le hk (by simp [intVals]; omega) : k < len)
    obtain ⟨b, off, spot⟩ := a
    have hspot : spot = none := by simpa [Addr.add] using World.cell?_spot (hcell 0 (by omega))
    subst hspot
    refine ⟨b, off, rfl, hlt (.cell b (off + 0)) (MemPlace.mem_row.2 ⟨0, by omega, by simp⟩), ?_⟩
    rw [← add_plain, hcell k (by omega)]
    have hk2 : k < zs.length := by omega
    simp [intVals, List.getD, hk2]
end Go.Proofs.YtpmmjaceehlpiaaDoor
/-
  An argument that is a statement, opened: its kind and its two names. Nothing here knows of the program.
-/
namespace Go.Proofs.YtpmmjaceehlpiaaDoor
open Go Go.Joins Go.ChangeShapes Go.WideShapes Go.RowKit Go.Deep

theorem open_stmt {H : Type} {enc : TypeId × Value → H} {P : Program} {w : World} {base : Nat} {spare : Nat → Bool} {held : Bool} {r : Reach} {b0 : Nat} {t : TypeId} {f0 f1 f2 : Field} {v : Value} {d : DataW H} {p : List MemPlace}
    (hs : P.underlying t = some (.struct #[f0, f1, f2])) (hone : oneCellFields P #[f0, f1, f2] = true) (hC : P.cellsOf t = 3)
    (h0 : P.underlying f0.type = some (.int .i64)) (h1 : P.underlying f1.type = some .string) (h2 : P.underlying f2.type = some .string)
    (hv : Value.okWide P w r b0 t v) (h : DataW.Trod enc P w base spare held t v d p) :
    ∃ (k : Int) (a b : ByteArray), v = .agg #[.int .i64 k, .string a, .string b] ∧ (-9223372036854775808 ≤ k ∧ k ≤ 9223372036854775807) ∧ a.size ≤ maxLen ∧ b.size ≤ maxLen := by
  obtain ⟨v0, v1, v2, y0, y1, y2, n, rfl, _, _, g0, g1, g2⟩ := open_agg3 hs hone hC hv h
  obtain ⟨k, e0, _, hw⟩ := DataW.trod_int h0 g0
  obtain ⟨a, e1, _, ha⟩ := DataW.trod_string h1 g1
  obtain ⟨b, e2, _, hb⟩ := DataW.trod_string h2 g2
  simp only [List.cons.injEq, and_true] at e0 e1 e2
  subst e0 e1 e2
  exact ⟨k, a, b, rfl, i64_bounds hw, ha, hb⟩
end Go.Proofs.YtpmmjaceehlpiaaDoor
/-
  Rows that lie between two blocks: what turns elsewhere leaves them. Nothing here knows of the program.
-/
namespace Go.Proofs.YtpmmjaceehlpiaaDoor
open Go Go.RowKit Go.WideShapes Go.Sort

/-- Only blocks from lo on, below hi, may have turned; new ones may be there. -/
structure Turn (lo hi : Nat) (W W' : World) : Prop where
  os : W'.os = W.os
  tape : W'.tape = W.tape
  output : W'.output = W.output
  size : W.heap.size ≤ W'.heap.size
  block : ∀ k, k < W.heap.size → (k < lo ∨ hi ≤ k) → W'.heap[k]? = W.heap[k]?
theorem Turn.of_below {lo hi : Nat} {W W' : World} (h : Below W.heap.size W W') : Turn lo hi W W' := ⟨h.os, h.tape, h.output, h.size, fun k hk _ => h.block k hk⟩
theorem Turn.of_grown {lo hi : Nat} {W W' : World} {r : Option Nat} (h : W.grownBy W' r) (hr : ∀ k, r = some k → lo ≤ k ∧ k < hi) : Turn lo hi W W' :=
  ⟨h.os, h.tape, h.output, h.size, fun k hk hd => h.block k hk fun e => by have := hr k e.symm; omega⟩
theorem Turn.trans {lo hi : Nat} {W W' W'' : World} (h : Turn lo hi W W') (k : Turn lo hi W' W'') : Turn lo hi W W'' :=
  ⟨k.os.trans h.os, k.tape.trans h.tape, k.output.trans h.output, Nat.le_trans h.size k.size, fun j hj hd => (k.block j (Nat.lt_of_lt_of_le hj h.size) hd).trans (h.block j hj hd)⟩
theorem Turn.below {B lo hi : Nat} {w W W' : World} (h : Below B w W) (t : Turn lo hi W W') (hB : B ≤ lo) (hs : B ≤ W.heap.size) : Below B w W' :=
  ⟨t.os.trans h.os, t.tape.trans h.tape, t.output.trans h.output, Nat.le_trans h.size t.size, fun k hk => (t.block k (by omega) (.inl (by omega))).trans (h.block k hk)⟩
theorem Turn.mono {lo hi lo' hi' : Nat} {W W' : World} (h : Turn lo hi W W') (h1 : lo' ≤ lo) (h2 : hi ≤ hi') : Turn lo' hi' W W' :=
  ⟨h.os, h.tape, h.output, h.size, fun k hk hd => h.block k hk (by omega)⟩

/-- A row in blocks from lo on, below hi: it may be read. -/
def RowIn (lo hi : Nat) (W : World) (a : Option Addr) (xs : List Value) : Prop := hi ≤ W.heap.size ∧ ∀ k x, xs[k]? = some x → ∃ b o, a = some ⟨b, o, none⟩ ∧ lo ≤ b ∧ b < hi ∧ W.cell? ⟨b, o + k, none⟩ = some x
theorem RowIn.row {lo hi : Nat} {W : World} {a : Option Addr} {xs : List Value} (h : RowIn lo hi W a xs) : Row W W.heap.size a xs := fun k x hx => by
  obtain ⟨b, o, e, _, h2, hc⟩ := h.2 k x hx
  exact ⟨b, o, e, Nat.lt_of_lt_of_le h2 h.1, hc⟩
theorem RowIn.turn {lo hi lo' hi' : Nat} {W W' : World} {a : Option Addr} {xs : List Value} (h : RowIn lo hi W a xs) (t : Turn lo' hi' W W') (hd : hi ≤ lo' ∨ hi' ≤ lo) : RowIn lo hi W' a xs := by
  refine ⟨Nat.le_trans h.1 t.size, fun k x hx => ?_⟩
  obtain ⟨b, o, e, h1, h2, hc⟩ := h.2 k x hx
  exact ⟨b, o, e, h1, h2, (World.cell?_of_block (t.block b (Nat.lt_of_lt_of_le h2 h.1) (by omega))).trans hc⟩
theorem RowIn.below {lo hi : Nat} {W W' : World} {a : Option Addr} {xs : List Value} (h : RowIn lo hi W a xs) (hb : Below W.heap.size W W') : RowIn lo hi W' a xs := h.turn (lo' := hi) (hi' := hi) (Turn.of_below hb) (.inl (Nat.le_refl _))

theorem RowIn.grown {lo hi : Nat} {W W' : World} {a : Option Addr} {xs : List Value} {r : Option Nat} (h : RowIn lo hi W a xs) (hg : W.grownBy W' r) (hr : ∀ k, r = some k → k < lo ∨ hi ≤ k) : RowIn lo hi W' a xs := by
  refine ⟨Nat.le_trans h.1 hg.size, fun k x hx => ?_⟩
  obtain ⟨b, o, e, h1, h2, hc⟩ := h.2 k x hx
  exact ⟨b, o, e, h1, h2, (World.cell?_of_block (hg.block b (Nat.lt_of_lt_of_le h2 h.1) fun e => by have := hr b e.symm; omega)).trans hc⟩

/-- A row that a call made, in blocks from lo on, below hi: it may be written. -/
def OwnIn (lo hi : Nat) (W : World) (e : TypeId) (size : Nat) (v : Value) (n : Nat) (xs : List Value) : Prop := hi ≤ W.heap.size ∧ W.ownsRow lo e size v n xs ∧ ∀ k, v.ownBlock = some k → k < hi
section
variable {lo hi lo' hi' : Nat} {W W' : World} {e size n : Nat} {v : Value} {xs ys : List Value}
theorem OwnIn.of (h : W.ownsRow lo e size v n xs) : OwnIn lo W.heap.size W e size v n xs := ⟨Nat.le_refl _, h, fun k hk => (h.lt k hk).2⟩
theorem OwnIn.turn (h : OwnIn lo hi W e size v n xs) (t : Turn lo' hi' W W') (hd : hi ≤ lo' ∨ hi' ≤ lo) : OwnIn lo hi W' e size v n xs := by
  refine ⟨Nat.le_trans h.1 t.size, ⟨h.2.1.1, h.2.1.2.imp id ?_⟩, h.2.2⟩
  rintro ⟨g, cap, cur, rfl, hb, hgc, r⟩
  have hlt := (h.2.1.lt g rfl)
  have := h.2.2 g rfl
  exact ⟨g, cap, cur, rfl, hb, (t.block g hlt.2 (by omega)).trans hgc, r⟩
theorem OwnIn.below (h : OwnIn lo hi W e size v n xs) (hb : Below W.heap.size W W') : OwnIn lo hi W' e size v n xs := h.turn (lo' := hi) (hi' := hi) (Turn.of_below hb) (.inl (Nat.le_refl _))
theorem OwnIn.mono (h : OwnIn lo hi W e size v n xs) (h1 : lo' ≤ lo) (h2 : hi ≤ hi') (h3 : hi' ≤ W.heap.size) : OwnIn lo' hi' W e size v n xs := ⟨h3, own_base h.2.1 h1, fun k hk => Nat.lt_of_lt_of_le (h.2.2 k hk) h2⟩
theorem OwnIn.again (h : OwnIn lo hi W e size v n xs) (hg : hi ≤ W'.heap.size) (h' : W'.ownsRow lo e size v n ys) : OwnIn lo hi W' e size v n ys := ⟨hg, h', h.2.2⟩
theorem OwnIn.grows (h : OwnIn lo hi W e size v n xs) (hg : W.grownBy W' v.ownBlock) : Turn lo hi W W' := Turn.of_grown hg fun k hk => ⟨(h.2.1.lt k hk).1, h.2.2 k hk⟩
end
theorem OwnIn.rowIn {lo hi : Nat} {W : World} {e n : Nat} {a : Option Addr} {c : Nat} {size : Nat} {xs : List Value} (h : OwnIn lo hi W e size (.slice a n c) n xs) : RowIn lo hi W a xs := by
  refine ⟨h.1, fun k x hx => ?_⟩
  obtain ⟨hl, ho⟩ := h.2.1
  rcases ho with ⟨hv, hn⟩ | ⟨g, cap, cur, hv, hg0, hg, _⟩
  · rw [hn, Nat.zero_mul] at hl
    rw [List.eq_nil_of_length_eq_zero hl] at hx
    simp at hx
  · injection hv with ha _ _
    have hblk := h.2.2 g (by rw [ha]; rfl)
    refine ⟨g, 0, ha, hg0, hblk, ?_⟩
    have hc := h.2.1.cells (g := g) (by subst ha; rfl) k x hx
    rw [add_plain] at hc
    exact hc
theorem OwnIn.row {lo hi : Nat} {W : World} {e n : Nat} {a : Option Addr} {c : Nat} {size : Nat} {xs : List Value} (h : OwnIn lo hi W e size (.slice a n c) n xs) : Row W W.heap.size a xs := h.rowIn.row
theorem OwnIn.form {lo hi : Nat} {W : World} {e size n : Nat} {v : Value} {xs : List Value} (h : OwnIn lo hi W e size v n xs) : ∃ a c, v = .slice a n c ∧ n ≤ c := by
  rcases h.2.1.2 with ⟨rfl, rfl⟩ | ⟨g, cap, cur, rfl, _, _, hc, _⟩
  · exact ⟨_, _, rfl, Nat.le_refl _⟩
  · exact ⟨_, _, rfl, hc⟩

/-- It returned x; nothing old has turned. -/
def GaveX (x : Value) (w : World) (e : Ending) (w' : World) : Prop := e = .returned x ∧ Below w.heap.size w w'
/-- .. met in a region that draws its order. -/
theorem at_again {P : Program} {f : FuncId} {args : Array Value} {w : World} {d : Nat} {os : Array Obj} {v : Value} (h : Calls P f args (grow (redrawn w d) os) (GaveX v (grow (redrawn w d) os))) :
    Calls P f args (grow (redrawn w d) os) fun e w'' => e = .returned v ∧ ∃ p : Regrown, w'' = grow (redrawn w p.d) p.os := Calls.regrown_of h
theorem same_again {P : Program} {f : FuncId} {args : Array Value} {w : World} {d : Nat} {os : Array Obj} {v : Value} (h : Calls P f args (grow (redrawn w d) os) fun e w' => e = .returned v ∧ grow (redrawn w d) os = w') :
    Calls P f args (grow (redrawn w d) os) fun e w'' => e = .returned v ∧ ∃ p : Regrown, w'' = grow (redrawn w p.d) p.os :=
  Calls.regrown_of (h.mono fun _ _ ⟨he, hw⟩ => ⟨he, hw ▸ Below.refl _ _⟩)
theorem row_again {w : World} {a : Option Addr} {xs : List Value} (h : Row w w.heap.size a xs) (d : Nat) (os : Array Obj) : Row (grow (redrawn w d) os) (grow (redrawn w d) os).heap.size a xs :=
  (h.below (below_regrown w d os)).grow (below_regrown w d os).size
end Go.Proofs.YtpmmjaceehlpiaaDoor
/-
  Statements: what chapter 4's functions come to; the law's own helpers over a statement. A statement is a struct of a kind and two names.
-/
namespace Go.Proofs.YtpmmjaceehlpiaaDoor
open Go Go.RowKit

abbrev stV (k : Int) (a b : ByteArray) : Value := .agg #[.int .i64 k, .string a, .string b]
def isTestS (k : Int) : Bool := decide (9 ≤ k) && decide (k ≤ 12)
def oppS (k : Int) : Int := if k = 9 then 10 else if k = 10 then 9 else if k = 11 then 12 else 11
theorem isTestS_true {k : Int} : isTestS k = true ↔ 9 ≤ k ∧ k ≤ 12 := by simp [isTestS]
theorem isTestS_four {k : Int} (h : isTestS k = true) : k = 9 ∨ k = 10 ∨ k = 11 ∨ k = 12 := by rw [isTestS_true] at h; omega

/-- It returned x; what was there is as it was. -/
def GaveB (x : Value) (w : World) (e : Ending) (w' : World) : Prop := e = .returned x ∧ Below w.heap.size w w'

set_option maxHeartbeats 400000 in
theorem lawToStmt (k : Int) (a b : ByteArray) (w : World) : Calls Tryd.prog 21 #[stV k a b] w (GaveB (stV k a b) w) := by
  go_enter Tryd.func21, Tryd.ntmps21
  go_wp2
  refine bodyPost_ret (v := stV k a b) (by simp [results, Tryd.results21, go_sem]) rfl ⟨rfl, ?_⟩
  repeat (first | exact Below.refl _ _ | refine Below.alloc ?_ (by simp <;> omega) _ | refine Below.setCell ?_ (by simp <;> omega) _)

/-- The size guard: an int; where it is not negative, the names fit into the allowance. -/
def SzStmtEnd (a b : ByteArray) (left : Nat) (w : World) (e : Ending) (w' : World) : Prop :=
  ∃ r : Int, e = .returned (.int .i64 r) ∧ Below w.heap.size w w' ∧ r ≤ left ∧ (0 ≤ r → (a.size : Int) + b.size + r = left)
set_option maxHeartbeats 400000 in
theorem szStmt (k : Int) (a b : ByteArray) (left : Nat) (w : World) (hl : left ≤ 1099511627776) (ha : a.size ≤ maxLen) (hb : b.size ≤ maxLen) : Calls Tryd.prog 18 #[stV k a b, .int .i64 left] w (SzStmtEnd a b left w) := by
  unfold maxLen at ha hb
  by_cases h0 : (left : Int) - a.size < 0
  · go_enter Tryd.func18, Tryd.ntmps18
    go_wp2
    go_ret
    exact ⟨-1, rfl, (Below.refl _ _).alloc (Nat.le_refl _) _, by omega, fun h => by omega⟩
  · by_cases h1 : (left : Int) - a.size - b.size < 0
    · go_enter Tryd.func18, Tryd.ntmps18
      go_wp2
      go_ret
      exact ⟨-1, rfl, (Below.refl _ _).alloc (Nat.le_refl _) _, by omega, fun h => by omega⟩
    · go_enter Tryd.func18, Tryd.ntmps18
      go_wp2
      go_ret
      exact ⟨(left : Int) - a.size - b.size, rfl, (Below.refl _ _).alloc (Nat.le_refl _) _, by omega, fun h => by omega⟩

theorem str_eq_self (s : ByteArray) : (s.toList == s.toList) = true := by simp
theorem specIn3 (a x y : Int) (w : World) : Calls Tryd.prog 54 #[.int .i64 a, .int .i64 x, .int .i64 y] w fun e w' => e = .returned (.bool (decide (x ≤ a) && decide (a ≤ y))) ∧ w = w' := by
  by_cases h0 : x ≤ a <;> by_cases h1 : a ≤ y
  all_goals
    go_enter Tryd.func54, Tryd.ntmps54
    go_wp2
    go_ret
    exact ⟨by simp [h0, h1], rfl⟩

theorem specIsTest (k : Int) (a b : ByteArray) (w : World) : Calls Tryd.prog 45 #[stV k a b] w (GaveB (.bool (isTestS k)) w) := by
  go_enter Tryd.func45, Tryd.ntmps45
  go_wp2_with fail
  refine (specIn3 k 9 12 _).mono ?_
  rintro e w1 ⟨rfl, rfl⟩
  go_wp2
  go_ret
  exact ⟨rfl, (Below.refl _ _).alloc (Nat.le_refl _) _⟩

def noneS : Value := .tuple #[stV 0 ⟨#[]⟩ ⟨#[]⟩, .bool false]
theorem bcell {W w1 : World} (hb : Below W.heap.size W w1) : (∀ b o, b < W.heap.size → w1.cell? ⟨b, o, none⟩ = W.cell? ⟨b, o, none⟩) ∧ (∀ b o, b < W.heap.size → w1.frozen? ⟨b, o, none⟩ = W.frozen? ⟨b, o, none⟩) :=
  ⟨fun b o h => hb.cell (p := ⟨b, o, none⟩) h, fun b o h => hb.frozen (p := ⟨b, o, none⟩) h⟩

set_option maxHeartbeats 800000 in
theorem specOppositeYes (k : Int) (a b : ByteArray) (w : World) (h : isTestS k = true) : Calls Tryd.prog 16 #[stV k a b] w (GaveB (.tuple #[stV (oppS k) a b, .bool true]) w) := by
  rcases isTestS_four h with rfl | rfl | rfl | rfl
  all_goals
    clear h
    simp only [oppS]
    go_enter Tryd.func16, Tryd.ntmps16
    go_wp2_with fail
    refine (specIsTest _ a b _).mono ?_
    rintro e w1 ⟨rfl, hb1⟩
    obtain ⟨hc, hf⟩ := bcell hb1
    have hz := hb1.size
    simp at hz
    simp only [show isTestS 9 = true from rfl, show isTestS 10 = true from rfl, show isTestS 11 = true from rfl, show isTestS 12 = true from rfl]
    go_wp2
    refine bodyPost_ret (v := .tuple #[stV _ a b, .bool true]) (by simp [results, Tryd.results16, go_sem, hc]) rfl ⟨rfl, ?_⟩
    repeat (first | exact Below.alloc (Below.alloc (Below.refl _ _) (by simp) _) (by simp) _ | exact Below.trans (Below.alloc (Below.alloc (Below.refl _ _) (by simp) _) (by simp) _) (Below.mono hb1 (by simp <;> omega)) | refine Below.setCell ?_ (by simp <;> omega) _)

set_option maxHeartbeats 800000 in
theorem specOppositeNo (k : Int) (a b : ByteArray) (w : World) (h : isTestS k = false) : Calls Tryd.prog 16 #[stV k a b] w (GaveB (.tuple #[stV 0 ⟨#[]⟩ ⟨#[]⟩, .bool false]) w) := by
  have H := Lib.hid h
  clear h
  go_enter Tryd.func16, Tryd.ntmps16
  go_wp2_with fail
  refine (specIsTest _ a b _).mono ?_
  rw [H.out]
  rintro e w1 ⟨rfl, hb1⟩
  obtain ⟨hc, hf⟩ := bcell hb1
  have hz := hb1.size
  simp at hz
  go_wp2
  refine bodyPost_ret (v := .tuple #[stV 0 ⟨#[]⟩ ⟨#[]⟩, .bool false]) (by simp [results, Tryd.results16, go_sem, hc]) rfl ⟨rfl, ?_⟩
  repeat (first | exact Below.trans (Below.alloc (Below.alloc (Below.refl _ _) (by simp) _) (by simp) _) (Below.mono hb1 (by simp <;> omega)) | refine Below.setCell ?_ (by simp <;> omega) _)

end Go.Proofs.YtpmmjaceehlpiaaDoor
/-
  The law's size guard over a []string: what it lets through is small.
-/
namespace Go.Proofs.YtpmmjaceehlpiaaDoor
open Go Go.RowKit

/-- The guard's answer: an int; where it is not negative, the strings and their number fit into the allowance. -/
def SzEnd (ss : List ByteArray) (left : Nat) (w : World) (e : Ending) (w' : World) : Prop :=
  ∃ r : Int, e = .returned (.int .i64 r) ∧ w = w' ∧ r ≤ left ∧ (0 ≤ r → (ss.length : Int) + total ss + r = left)

set_option maxHeartbeats 400000 in
theorem szStrs (a : Option Addr) (cap : Nat) (ss : List ByteArray) (left : Nat) (w : World) (hl : left ≤ 1099511627776) (hlen : ss.length ≤ maxLen) (hws : ∀ s ∈ ss, s.size ≤ maxLen) (hrow : Row w w.heap.size a (strVals ss)) :
    Calls Tryd.prog 17 #[.slice a ss.length cap, .int .i64 left] w (SzEnd ss left w) := by
  unfold maxLen at hlen
  by_cases h0 : left < ss.length
  · have hb : (left : Int) - ss.length < 0 := by omega
    go_enter Tryd.func17, Tryd.ntmps17
    go_wp2
    go_ret
    exact ⟨-1, rfl, rfl, by omega, fun h => by omega⟩
  · have hb : ¬ (left : Int) - ss.length < 0 := by omega
    go_enter Tryd.func17, Tryd.ntmps17
    go_wp2
    go_loop [1, 5] (fun l i => ∃ k m : Nat, k ≤ ss.length ∧ i = .int .i64 k ∧ l = .int .i64 m ∧ ss.length + total (ss.take k) + m = left) (fun _ i => ss.length - (intOf i).toNat)
    case atStart => exact ⟨0, left - ss.length, Nat.zero_le _, rfl, by congr 1; omega, by simp [total]; omega⟩
    case round =>
      obtain ⟨k, m, hk, rfl, rfl, hsum⟩ := hrel
      by_cases hlt : k < ss.length
      · obtain ⟨b, o, rfl, hbW, hc⟩ := hrow k (.string ss[k]) (by simp [strVals, hlt])
        have hsz : ss[k].size ≤ 9223372036854775807 := by have := hws ss[k] (List.getElem_mem hlt); unfold maxLen at this; omega
        have hnx := total_take_next ss k hlt
        have Hsum := Lib.hid hsum
        have Hnx := Lib.hid hnx
        have hm : m ≤ 1099511627776 := by omega
        clear hsum hnx
        by_cases hneg : (m : Int) - ss[k].size < 0
        · go_wp2
          go_ret
          exact ⟨-1, rfl, rfl, by omega, fun h => by omega⟩
        · go_wp2
          go_round
          case rel =>
            have h1 := Hsum.out
            have h2 := Hnx.out
            exact ⟨k + 1, m - ss[k].size, by omega, by go_num, by congr 1; omega, by omega⟩
          case measure => simp [intOf]; omega
      · have hk' : k = ss.length := by omega
        have Hk := Lib.hid hk'
        have Hsum := Lib.hid hsum
        clear hk' hsum
        go_wp2
        go_ret
        have h1 := Hsum.out
        rw [Hk.out, List.take_length] at h1
        exact ⟨m, rfl, rfl, by omega, fun _ => by omega⟩
end Go.Proofs.YtpmmjaceehlpiaaDoor
/-
  The law's own copy of a []string: a new row with the same strings.
-/
namespace Go.Proofs.YtpmmjaceehlpiaaDoor
open Go Go.RowKit

theorem strInfo : (Tryd.prog.info? 9).map (fun i => (i.zero, i.size, i.bytes)) = some (some (.string ⟨#[]⟩), 1, 16) := by kernel_rfl

/-- A new slice at the heap's end that holds the strings; nothing old has turned. -/
def CopyEnd (ss : List ByteArray) (w : World) (e : Ending) (w' : World) : Prop :=
  e = .returned (.slice (some ⟨w.heap.size, 0, none⟩) ss.length ss.length) ∧ w'.ownsRow w.heap.size 9 1 (.slice (some ⟨w.heap.size, 0, none⟩) ss.length ss.length) ss.length (strVals ss) ∧ Below w.heap.size w w'

theorem set_take {α : Type} (ys : List α) (k : Nat) (x : α) (h : k < ys.length) : (ys.set k x).take (k + 1) = ys.take k ++ [x] := by
  rw [List.take_succ_eq_append_getElem (by simpa using h)]
  simp [List.take_set_of_le]

set_option maxHeartbeats 400000 in
theorem toStrs (a : Option Addr) (cap : Nat) (ss : List ByteArray) (w : World) (hn : ss.length ≤ 1099511627776) (hrow : Row w w.heap.size a (strVals ss)) :
    Calls Tryd.prog 20 #[.slice a ss.length cap] w (CopyEnd ss w) := by
  obtain ⟨i0, hi, hz0, hz1, hz2⟩ := info_parts strInfo
  go_enter Tryd.func20, Tryd.ntmps20
  go_wp2_with (at_make; refine wpList_make_full _ rfl _ _ 24 rfl w.heap.size 9 i0 (.string ⟨#[]⟩) 1 Tryd.underlying24 hi hz0 hz1 _ _ _ _ ss.length rfl rfl rfl rfl ?b2 ?b3 (Nat.le_refl _) ?_)
  case b2 => rw [hz2]; omega
  case b3 => unfold maxLen; omega
  intro w0 hown0 hgrow0
  go_wp2
  go_loopw [4] (fun i wr => ∃ (k : Nat) (ys : List Value), k ≤ ss.length ∧ i = .int .i64 k ∧ ys.take k = strVals (ss.take k) ∧ ys.length = ss.length ∧
      wr.ownsRow w.heap.size 9 1 (.slice (some ⟨w.heap.size, 0, none⟩) ss.length ss.length) ss.length ys ∧ Below w.heap.size w wr)
    (fun i _ => ss.length - (intOf i).toNat)
  case atStart => exact ⟨0, _, Nat.zero_le _, rfl, by simp [strVals], by simpa using hown0.1, hown0, (Below.refl _ _).grown hgrow0 (Nat.le_refl _) (fun k h => by cases h)⟩
  case round =>
    obtain ⟨k, ys, hk, rfl, hys, hyl, hown, hb⟩ := hrel
    by_cases hlt : k < ss.length
    · obtain ⟨b, o, rfl, hbW, hc⟩ := hrow k (.string ss[k]) (by simp [strVals, hlt])
      have hc1 : wr.cell? ⟨b, o + k, none⟩ = some (.string ss[k]) := (hb.cell (p := ⟨b, o + k, none⟩) hbW).trans hc
      obtain ⟨old, hold⟩ : ∃ old, wr.cell? ⟨w.heap.size, k, none⟩ = some old := ⟨_, (hown.cellAt k (by omega)).trans (List.getElem?_eq_getElem (by omega))⟩
      have hfr := hown.frozenAt k
      have hst := hown.stored k (.string ss[k])
      have Hys := Lib.hid hys
      have Hyl := Lib.hid hyl
      have hklt : k < ys.length := by omega
      clear hys hyl hown hc
      go_wp2
      go_roundw
      case rel => exact ⟨k + 1, ys.set k (.string ss[k]), by omega, by go_num, by rw [set_take ys k _ hklt, Hys.out, take_next ss k hlt]; exact (strVals_snoc _ _).symm, by rw [List.length_set]; exact Hyl.out, hst.1, hb.setCell (by exact Nat.le_refl _) _⟩
      case measure => simp [intOf]; omega
    · have hk' : k = ss.length := by omega
      have Hk := Lib.hid hk'
      have Hys := Lib.hid hys
      have Hyl := Lib.hid hyl
      clear hk' hys hyl
      go_wp2
      go_ret
      have hfull : ys = strVals ss := by
        have h1 := Hys.out
        rw [Hk.out, List.take_length, List.take_of_length_le (by rw [Hyl.out]; exact Nat.le_refl _)] at h1
        exact h1
      rw [hfull] at hown
      exact ⟨rfl, hown, hb⟩
end Go.Proofs.YtpmmjaceehlpiaaDoor
/-
  An append of any row to a row of one's own, as a step of a region.
-/
namespace Go.Proofs.YtpmmjaceehlpiaaDoor
open Go Go.RowKit Go.ChangeShapes Go.WideShapes Go.ChangeAt

theorem own_none {w : World} {base e size n : Nat} {a : Option Addr} {c : Nat} {xs : List Value} (h : w.ownsRow base e size (.slice a n c) n xs) : a = none → c = 0 := by
  intro ha
  rcases h.2 with ⟨hv, _⟩ | ⟨g, cap, cur, hv, _⟩
  · injection hv
  · injection hv with h1
    rw [ha] at h1
    cases h1

/-- A slice that was made empty, and owns its block. -/
theorem empty_own {w : World} {base g : Nat} {e : TypeId} {size : Nat} (h : w.heap[g]? = some (.cells #[] e (0, 0))) (hb : base ≤ g) : w.ownsRow base e size (.slice (some ⟨g, 0, none⟩) 0 0) 0 [] :=
  ⟨by simp, .inr ⟨g, 0, #[], rfl, hb, h, Nat.le_refl _, Nat.zero_le _, by simp, by simp⟩⟩

/-- append(v, xs...) as a step of a region: xs is any row, nil let in. -/
theorem step_append_row {P : Program} {ops : Array Oper} {o : Oper} {act : Act} {K : Act → World → Prop} {Q : Exit → Act → World → Prop} {E : Prop} (w : World) (hgd : o.guard = none) (s x : Operand) (t : TypeId)
    (ho : o.op = .call { callee := .builtin .append, args := #[s, x], argTypes := #[t, t] })
    (base : Nat) (e : TypeId) (i : TypeInfo) (z : Value) (size bytes : Nat) (ht : P.underlying t = some (.slice e)) (hi : P.info? e = some i) (hz : i.zero = some z)
    (hsize : i.size = size) (hby : i.bytes = bytes) (hzs : z.cells.size = size) (hsz : 0 < size)
    (v : Value) (n : Nat) (xs : List Value) (hs : act.eval s = v) (hown : w.ownsRow base e size v n xs)
    (a : Option Addr) (m c : Nat) (news : List Value) (hx : act.eval x = .slice a m c) (hnil : a = none → m = 0 ∧ c = 0) (hl : news.length = m * size) (hnews : ∀ ad, a = some ad → ∀ j u, news[j]? = some u → w.cell? (ad.add j) = some u) (h1 : ∀ u ∈ news, u.oneCell' = true)
    (h63 : n + m ≤ maxLen) (hbytes : (n + m) * bytes ≤ 140737488355328) (hbase : base ≤ w.heap.size)
    (h : ∀ v' w', w'.ownsRow base e size v' (n + m) (xs ++ news) → w.grownBy w' v.ownBlock → (v'.ownBlock = v.ownBlock ∨ v'.ownBlock = some w.heap.size) → Below base w w' → K (act.put o.dst v') w') :
    if Region.wanted o (yielded ops act.tmps) = true then Oper.wp P o act w K Q else E := by
  have hw : Region.wanted o (yielded ops act.tmps) = true := by simp [Region.wanted, hgd]
  rw [if_pos hw]
  cases a with
  | none =>
    obtain ⟨rfl, rfl⟩ := hnil rfl
    have hr := run_append_owned_none (P := P) w base t o.type e i size ht hi v n xs hown
    have hn0 : news = [] := List.eq_nil_of_length_eq_zero (by simpa using hl)
    subst hn0
    unfold Oper.wp execOp
    simp only [ho, resolve, invoke, builtin, Sem.run_bind, Sem.run_pure, Result.andThen_ok, List.map_toArray, List.map_cons, List.map_nil, hs, hx, hr]
    exact h v w (by simpa using hown) ⟨rfl, rfl, rfl, Nat.le_refl _, fun _ _ _ => rfl⟩ (.inl rfl) (Below.refl _ _)
  | some ad =>
    obtain ⟨v', w', hr, h2, h3, _, h5⟩ := run_append_own_at (P := P) w base t o.type e i z size bytes ht hi hz hsize hby hzs hsz v n xs hown ad m c news hl (hnews ad rfl) h1 h63 hbytes hbase
    unfold Oper.wp execOp
    simp only [ho, resolve, invoke, builtin, Sem.run_bind, Sem.run_pure, Result.andThen_ok, List.map_toArray, List.map_cons, List.map_nil, hs, hx, hr]
    exact h v' w' h2 h3 h5 ((Below.refl base w).grown h3 hbase fun k hk => (hown.lt k hk).1)

theorem row_nil {w : World} {B : Nat} {xs : List Value} (h : Row w B none xs) : xs = [] := by
  match xs, h with
  | [], _ => rfl
  | x :: r, h =>
    obtain ⟨b, o, e, _⟩ := h 0 x rfl
    cases e
theorem row_news {w : World} {B : Nat} {a : Option Addr} {xs : List Value} (h : Row w B a xs) : ∀ ad, a = some ad → ∀ j u, xs[j]? = some u → w.cell? (ad.add j) = some u := by
  intro ad ha j u hj
  obtain ⟨b, o, e, _, hc⟩ := h j u hj
  rw [ha] at e
  injection e with e
  rw [e, add_plain]
  exact hc

theorem emp_at {W : World} {g : Nat} {t : TypeId} (h : g = W.heap.size) : (W.alloc (.cells #[] t)).heap[g]? = some (.cells #[] t (0, 0)) := by
  subst h
  exact heap_alloc_new W _
theorem emp_drew {W : World} {g : Nat} {t : TypeId} (h : W.heap[g]? = some (.cells #[] t (0, 0))) : W.drew.heap[g]? = some (.cells #[] t (0, 0)) := h
theorem emp_keep {W : World} {g : Nat} {t : TypeId} (h : W.heap[g]? = some (.cells #[] t (0, 0))) (o : Obj) : (W.alloc o).heap[g]? = some (.cells #[] t (0, 0)) := by
  refine (Below.heap_alloc W o g ?_).trans h
  rcases Nat.lt_or_ge g W.heap.size with h1 | h1
  · exact h1
  · rw [Array.getElem?_eq_none h1] at h; cases h
theorem emp_grown {W W' : World} {g : Nat} {t : TypeId} {r : Option Nat} (h : W.heap[g]? = some (.cells #[] t (0, 0))) (hg : W.grownBy W' r) (hne : some g ≠ r) : W'.heap[g]? = some (.cells #[] t (0, 0)) := by
  refine (hg.block g ?_ hne).trans h
  rcases Nat.lt_or_ge g W.heap.size with h1 | h1
  · exact h1
  · rw [Array.getElem?_eq_none h1] at h; cases h

/-- What the call owned before an append to another row, it owns behind it (an alloc or a draw may lie between). -/
theorem own_after {w W w' : World} {base e size n : Nat} {v : Value} {xs : List Value} {row : Option Nat} (hg : W.grownBy w' row) (h : w.ownsRow base e size v n xs) (hne : ∀ k, v.ownBlock = some k → some k ≠ row) (hb : Below w.heap.size w W := by first | exact Below.refl _ _ | exact Below.drew (Below.refl _ _) | exact (Below.refl _ _).alloc (Nat.le_refl _) _) : w'.ownsRow base e size v n xs :=
  own_other (own_keeps h hb) hg hne
end Go.Proofs.YtpmmjaceehlpiaaDoor
/-
  Boxes of any number of cells that may be written, in the words of intervals.
-/
namespace Go.Proofs.YtpmmjaceehlpiaaDoor
open Go Go.RowKit

/-- A box of some cells that may be written. -/
structure BoxL (W : World) (g : Nat) (xs : List Value) : Prop where
  c : ∀ i x, xs[i]? = some x → W.cell? ⟨g, i, none⟩ = some x
  f : ∀ o, W.frozen? ⟨g, o, none⟩ = false
  lt : g < W.heap.size
section
variable {W W' : World} {g lo hi : Nat} {xs : List Value}
theorem BoxL.new (w : World) (xs : List Value) (t : TypeId) : BoxL (w.alloc (.cells xs.toArray t)) w.heap.size xs :=
  ⟨fun i x hx => by rw [World.cell?_alloc_at _ _ _ _ rfl]; simpa using hx, fun o => by simp [go_sem], by simp⟩
theorem two_boxL (w : World) (xs ys : List Value) (t t' : TypeId) : ∃ W0, (w.alloc (.cells xs.toArray t)).alloc (.cells ys.toArray t') = W0 ∧ Below w.heap.size w W0 ∧ BoxL W0 w.heap.size xs ∧ BoxL W0 (w.heap.size + 1) ys := by
  have h1 := BoxL.new w xs t
  have h2 := BoxL.new (w.alloc (.cells xs.toArray t)) ys t'
  have hs : (w.alloc (.cells xs.toArray t)).heap.size = w.heap.size + 1 := by simp
  have hb := (Below.refl (w.alloc (.cells xs.toArray t)).heap.size (w.alloc (.cells xs.toArray t))).alloc (Nat.le_refl _) (.cells ys.toArray t')
  rw [hs] at h2
  refine ⟨_, rfl, ((Below.refl _ _).alloc (Nat.le_refl _) _).alloc (by simp) _, ⟨fun i x hx => (hb.cell (p := ⟨w.heap.size, i, none⟩) (by rw [hs]; exact Nat.lt_succ_self _)).trans (h1.c i x hx), fun o => (hb.frozen (p := ⟨w.heap.size, o, none⟩) (by rw [hs]; exact Nat.lt_succ_self _)).trans (h1.f o), by simp; omega⟩, h2⟩
theorem BoxL.turn (h : BoxL W g xs) (t : Turn lo hi W W') (hd : g < lo ∨ hi ≤ g) : BoxL W' g xs :=
  ⟨fun i x hx => (World.cell?_of_block (t.block g h.lt hd)).trans (h.c i x hx), fun o => (World.frozen?_of_block (t.block g h.lt hd)).trans (h.f o), Nat.lt_of_lt_of_le h.lt t.size⟩
theorem BoxL.below (h : BoxL W g xs) (hb : Below W.heap.size W W') : BoxL W' g xs := h.turn (lo := g + 1) (hi := g + 1) (Turn.of_below hb) (.inl (Nat.lt_succ_self g))
theorem turn_set (W : World) (b i : Nat) (u : Value) : Turn b (b + 1) W (W.setCell ⟨b, i, none⟩ u) :=
  ⟨rfl, rfl, rfl, by simp, fun k _ hd => Below.heap_setCell _ _ _ _ (by show k ≠ b; omega)⟩
theorem BoxL.set (h : BoxL W g xs) (i : Nat) (u : Value) : BoxL (W.setCell ⟨g, i, none⟩ u) g (xs.set i u) := by
  refine ⟨fun j x hx => ?_, fun o => by simp [go_sem, h.f o], by simpa using h.lt⟩
  by_cases hij : i = j
  · subst hij
    have hl : i < xs.length := by
      have := (List.getElem?_eq_some_iff.1 hx).1
      simpa using this
    rw [List.getElem?_set_self hl] at hx
    obtain rfl := Option.some.inj hx
    exact World.cell?_setCell_same _ _ _ (h.c i _ (List.getElem?_eq_getElem hl))
  · rw [List.getElem?_set_ne hij] at hx
    exact (World.cell?_setCell_other _ _ _ _ (fun e => hij (by have := congrArg Addr.off e; simp at this; omega))).trans (h.c j x hx)
end
end Go.Proofs.YtpmmjaceehlpiaaDoor
/-
  The draws of the laws: a cursor over the law's bytes. Of what is drawn only the range is told; the cursor is the one thing that turns.
  What the draws of all laws share: lists beside the cursor, the guard of a law's bytes, a []byte argument opened.
  A drawn flag.
  One of a list of strings, drawn.
  One of a list of ints, drawn.
-/
namespace Go.Proofs.YtpmmjaceehlpiaaDoor
open Go Go.RowKit

/-- The bytes from an address on: each is a byte. -/
def Code8 (w : World) (B n : Nat) (a : Option Addr) : Prop := ∀ k, k < n → ∃ b o, ∃ c : Nat, a = some ⟨b, o, none⟩ ∧ b < B ∧ c ≤ 255 ∧ w.cell? ⟨b, o + k, none⟩ = some (.int .u8 (c : Int))
theorem Code8.keeps {w w' : World} {B n : Nat} {a : Option Addr} (h : Code8 w B n a) (hk : ∀ p : Addr, p.block < B → w'.cell? p = w.cell? p) : Code8 w' B n a := by
  intro k hkn
  obtain ⟨b, o, c, e, hb, h1, hc⟩ := h k hkn
  exact ⟨b, o, c, e, hb, h1, (hk _ hb).trans hc⟩
theorem Code8.grow {w : World} {B B' n : Nat} {a : Option Addr} (h : Code8 w B n a) (hB : B ≤ B') : Code8 w B' n a := by
  intro k hkn
  obtain ⟨b, o, c, e, hb, h1, hc⟩ := h k hkn
  exact ⟨b, o, c, e, by omega, h1, hc⟩

/-- A cursor in block g. -/
def Cur (w : World) (g : Nat) : Prop :=
  ∃ (a : Option Addr) (n cap i : Nat) (h : Int), w.heap[g]? = some (.cells #[.slice a n cap, .int .i64 (i : Int), .int .i64 h] 79 (0, 0)) ∧ i ≤ n ∧ n ≤ 1099511627776 ∧ Code8 w g n a
theorem Cur.lt {w : World} {g : Nat} (h : Cur w g) : g < w.heap.size := by
  obtain ⟨_, _, _, _, _, hg, _⟩ := h
  rcases Nat.lt_or_ge g w.heap.size with h1 | h1
  · exact h1
  · rw [Array.getElem?_eq_none h1] at hg; cases hg
theorem Cur.keeps {w w' : World} {g : Nat} (h : Cur w g) (hb : Below w.heap.size w w') : Cur w' g := by
  have hlt := h.lt
  obtain ⟨a, n, cap, i, x, hg, h1, h2, h3⟩ := h
  exact ⟨a, n, cap, i, x, (hb.block g hlt).trans hg, h1, h2, h3.keeps fun p hp => hb.cell (by omega)⟩

theorem and255 (y : Int) : ∃ x : Nat, x ≤ 255 ∧ bits .and .i64 y 255 = (x : Int) := by
  have h : bits .and .i64 y 255 = IntKind.i64.wrap ((BitVec.ofInt 64 y &&& BitVec.ofInt 64 255).toNat : Int) := rfl
  have hle : (BitVec.ofInt 64 y &&& BitVec.ofInt 64 255).toNat ≤ 255 := by
    rw [BitVec.toNat_and]
    exact Nat.and_le_right
  refine ⟨(BitVec.ofInt 64 y &&& BitVec.ofInt 64 255).toNat, hle, ?_⟩
  rw [h, IntKind.wrap_i64]
  omega

theorem cur_step {W : World} {g n cap i : Nat} {a : Option Addr} {v : Int} (hg : W.heap[g]? = some (.cells #[.slice a n cap, .int .i64 (i : Int), .int .i64 v] 79 (0, 0))) (hi : i < n) (hn : n ≤ 1099511627776) (hcode : Code8 W g n a) :
    Cur (W.setCell ⟨g, 1, none⟩ (.int .i64 ((i : Int) + 1))) g := by
  have h1 := heap_setCell_same W g 1 _ _ (.int .i64 ((i : Int) + 1)) hg
  refine ⟨a, n, cap, i + 1, v, ?_, hi, hn, hcode.keeps fun p hp => World.cell?_setCell_other _ _ _ _ (fun e => by subst e; exact Nat.lt_irrefl _ hp)⟩
  simpa using h1
theorem only_set {w W : World} {g i : Nat} {u : Value} (h : w.grownBy W (some g)) : w.grownBy (W.setCell ⟨g, i, none⟩ u) (some g) :=
  ⟨h.os, h.tape, h.output, by simpa using h.size, fun k hk hne => (heap_setCell_other W ⟨g, i, none⟩ k _ (fun e => hne (by simp [e]))).trans (h.block k hk hne)⟩
theorem only_draws {w W : World} {r : Option Nat} (h : w.grownBy W r) (n : Nat) : w.grownBy (W.drewN n) r := ⟨h.os, h.tape, h.output, h.size, h.block⟩

/-- What a draw does to the world: block g alone may have turned. -/
def ByteEnd (g : Nat) (w : World) (e : Ending) (w' : World) : Prop := ∃ x : Nat, x ≤ 255 ∧ e = .returned (.int .i64 (x : Int)) ∧ Cur w' g ∧ w.grownBy w' (some g)

set_option maxRecDepth 100000 in
set_option maxHeartbeats 800000 in
theorem drawByte (g : Nat) (w : World) (hcur : Cur w g) : Calls Tryd.prog 91 #[.pointer (some ⟨g, 0, none⟩)] w (ByteEnd g w) := by
  obtain ⟨a, n, cap, i, h, hg, hin, hn, hcode⟩ := hcur
  have c0 : w.cell? ⟨g, 0, none⟩ = some (.slice a n cap) := cell_of_row w g 0 _ _ (0, 0) hg
  have c1 : w.cell? ⟨g, 1, none⟩ = some (.int .i64 (i : Int)) := cell_of_row w g 1 _ _ (0, 0) hg
  have c2 : w.cell? ⟨g, 2, none⟩ = some (.int .i64 h) := cell_of_row w g 2 _ _ (0, 0) hg
  have f1 : w.frozen? ⟨g, 1, none⟩ = false := frozen_of_row w g 1 _ _ hg
  have f2 : w.frozen? ⟨g, 2, none⟩ = false := frozen_of_row w g 2 _ _ hg
  go_enter Tryd.func91, Tryd.ntmps91
  go_wp2
  generalize wrap64 (wrap64 (h * 6364136223846793005) + 1442695040888963407) = v
  have hg1 : (w.setCell ⟨g, 2, none⟩ (.int .i64 v)).heap[g]? = some (.cells #[.slice a n cap, .int .i64 (i : Int), .int .i64 v] 79 (0, 0)) := by
    have h1 := heap_setCell_same w g 2 _ _ (.int .i64 v) hg
    simpa using h1
  have hw1 : w.grownBy (w.setCell ⟨g, 2, none⟩ (.int .i64 v)) (some g) :=
    ⟨rfl, rfl, rfl, by simp, fun k _ hk => heap_setCell_other w ⟨g, 2, none⟩ k _ (fun e => hk (by simp [e]))⟩
  clear c0 c1 c2 f1 f2
  generalize w.setCell ⟨g, 2, none⟩ (.int .i64 v) = w1 at *
  have c0 : w1.cell? ⟨g, 0, none⟩ = some (.slice a n cap) := cell_of_row w1 g 0 _ _ (0, 0) hg1
  have c1 : w1.cell? ⟨g, 1, none⟩ = some (.int .i64 (i : Int)) := cell_of_row w1 g 1 _ _ (0, 0) hg1
  have c2 : w1.cell? ⟨g, 2, none⟩ = some (.int .i64 v) := cell_of_row w1 g 2 _ _ (0, 0) hg1
  have f1 : w1.frozen? ⟨g, 1, none⟩ = false := frozen_of_row w1 g 1 _ _ hg1
  have hcode1 : Code8 w1 g n a := hcode.keeps fun p hp => by
    have hgl : g < w.heap.size := by
      rcases Nat.lt_or_ge g w.heap.size with h1 | h1
      · exact h1
      · rw [Array.getElem?_eq_none h1] at hg; cases hg
    exact World.cell?_of_block (hw1.block p.block (by omega) (fun e => by injection e with e; omega))
  have Hg1 := Lib.hid hg1
  have Hw1 := Lib.hid hw1
  clear hg hg1 hw1 hcode
  go_quiet (fail)
  obtain ⟨x, hx, ex⟩ := and255 (bits BinOp.xor .i64 (v / 8589934592) (v / 35184372088832))
  rw [ex]
  clear ex
  by_cases hlt : i < n
  · obtain ⟨b, o, c, rfl, hbg, hc, hcc⟩ := hcode1 i hlt
    have hlti : (i : Int) < (n : Int) := by omega
    go_wp2
    go_quiet (fail)
    go_wp2
    go_quiet (fail)
    obtain ⟨y, hy, ey⟩ := and255 ((x : Int) + (c : Int))
    rw [ey]
    clear ey
    go_wp2
    go_ret
    exact ⟨y, hy, rfl, cur_step (W := w1.drewN _) Hg1.out hlt hn hcode1, only_set (only_draws Hw1.out _)⟩
  · have hge : ¬ (i : Int) < (n : Int) := by omega
    go_wp2
    go_quiet (fail)
    go_wp2
    go_ret
    exact ⟨x, hx, rfl, ⟨a, n, cap, i, v, Hg1.out, hin, hn, hcode1⟩, only_draws (only_draws Hw1.out _) _⟩

def BelowEnd (g n : Nat) (w : World) (e : Ending) (w' : World) : Prop := ∃ x : Nat, x < n ∧ e = .returned (.int .i64 (x : Int)) ∧ Cur w' g ∧ w.grownBy w' (some g)

theorem only_then {a b c : World} {g : Nat} (h : a.grownBy b (some g)) (k : b.grownBy c (some g)) : a.grownBy c (some g) :=
  ⟨k.os.trans h.os, k.tape.trans h.tape, k.output.trans h.output, Nat.le_trans h.size k.size, fun i hi hne => (k.block i (Nat.lt_of_lt_of_le hi h.size) hne).trans (h.block i hi hne)⟩

set_option maxHeartbeats 400000 in
theorem drawBelow_small (g n : Nat) (w : World) (h0 : 0 < n) (h1 : n ≤ 256) (hcur : Cur w g) : Calls Tryd.prog 52 #[.pointer (some ⟨g, 0, none⟩), .int .i64 (n : Int)] w (BelowEnd g n w) := by
  go_enter Tryd.func52, Tryd.ntmps52
  go_wp2_with fail
  refine (drawByte g _ hcur).mono ?_
  rintro e w1 ⟨x, hx, rfl, hc1, hw1⟩
  go_wp2
  go_ret
  exact ⟨x % n, Nat.mod_lt _ h0, by simp, hc1, hw1⟩

set_option maxHeartbeats 400000 in
theorem drawBelow_great (g n : Nat) (w : World) (h0 : 256 < n) (h1 : n ≤ 1099511627776) (hcur : Cur w g) : Calls Tryd.prog 52 #[.pointer (some ⟨g, 0, none⟩), .int .i64 (n : Int)] w (BelowEnd g n w) := by
  go_enter Tryd.func52, Tryd.ntmps52
  go_wp2_with fail
  refine (drawByte g _ hcur).mono ?_
  rintro e w1 ⟨x, hx, rfl, hc1, hw1⟩
  go_wp2_with fail
  refine (drawByte g _ hc1).mono ?_
  rintro e w2 ⟨y, hy, rfl, hc2, hw2⟩
  go_wp2_with fail
  refine (drawByte g _ hc2).mono ?_
  rintro e w3 ⟨z, hz, rfl, hc3, hw3⟩
  go_wp2_with fail
  refine (drawByte g _ hc3).mono ?_
  rintro e w4 ⟨u, hu, rfl, hc4, hw4⟩
  go_wp2
  go_ret
  exact ⟨(x * 16777216 + y * 65536 + z * 256 + u) % n, Nat.mod_lt _ (by omega), by simp, hc4, only_then (only_then (only_then hw1 hw2) hw3) hw4⟩

theorem drawBelow (g n : Nat) (w : World) (h0 : 0 < n) (h1 : n ≤ 1099511627776) (hcur : Cur w g) : Calls Tryd.prog 52 #[.pointer (some ⟨g, 0, none⟩), .int .i64 (n : Int)] w (BelowEnd g n w) := by
  by_cases h : n ≤ 256
  · exact drawBelow_small g n w h0 h hcur
  · exact drawBelow_great g n w (by omega) h1 hcur

theorem and_mask (y : Int) (m : Nat) (hm : m ≤ 9223372036854775807) : ∃ x : Nat, x ≤ m ∧ bits .and .i64 y (m : Int) = (x : Int) := by
  have h : bits .and .i64 y (m : Int) = IntKind.i64.wrap ((BitVec.ofInt 64 y &&& BitVec.ofInt 64 (m : Int)).toNat : Int) := rfl
  have hle : (BitVec.ofInt 64 y &&& BitVec.ofInt 64 (m : Int)).toNat ≤ m := by
    rw [BitVec.toNat_and]
    have h2 : (BitVec.ofInt 64 (m : Int)).toNat = m := by
      rw [BitVec.ofInt_natCast, BitVec.toNat_ofNat]
      exact Nat.mod_eq_of_lt (by omega)
    rw [h2]
    exact Nat.and_le_right
  refine ⟨(BitVec.ofInt 64 y &&& BitVec.ofInt 64 (m : Int)).toNat, hle, ?_⟩
  rw [h, IntKind.wrap_i64]
  omega

/-- A new cursor. -/
def NewEnd (w : World) (e : Ending) (w' : World) : Prop := ∃ g, e = .returned (.pointer (some ⟨g, 0, none⟩)) ∧ w.heap.size ≤ g ∧ Cur w' g ∧ Below w.heap.size w w'

theorem new_end {w : World} {a : Option Addr} {n cap : Nat} {x : Int} (hn : n ≤ 1099511627776) (hcode : Code8 w w.heap.size n a) :
    NewEnd w (.returned (.pointer (some ⟨w.heap.size, 0, none⟩))) (w.alloc (.cells #[.slice a n cap, .int .i64 0, .int .i64 x] 79)) :=
  ⟨w.heap.size, rfl, Nat.le_refl _, ⟨a, n, cap, 0, x, heap_alloc_new w _, Nat.zero_le _, hn, hcode.keeps fun _ hp => ((Below.refl w.heap.size w).alloc (Nat.le_refl _) _).cell hp⟩, (Below.refl _ _).alloc (Nat.le_refl _) _⟩

set_option maxRecDepth 100000 in
set_option maxHeartbeats 800000 in
theorem drawNew (a : Option Addr) (n cap : Nat) (w : World) (hn : n ≤ 1099511627776) (hcode : Code8 w w.heap.size n a) : Calls Tryd.prog 28 #[.slice a n cap] w (NewEnd w) := by
  go_enter Tryd.func28, Tryd.ntmps28
  go_wp2
  go_loop [3, 4] (fun h i => ∃ (k : Nat) (x : Int), k ≤ n ∧ i = .int .i64 (k : Int) ∧ h = .int .i64 x ∧ 0 ≤ x ∧ x ≤ 2199023255552) (fun _ i => n - (intOf i).toNat)
  case atStart => exact ⟨0, _, Nat.zero_le _, rfl, rfl, by omega, by omega⟩
  case round =>
    obtain ⟨k, x, hk, rfl, rfl, hx0, hx1⟩ := hrel
    by_cases hlt : k < n
    · obtain ⟨b, o, c, rfl, hbg, hc, hcc⟩ := hcode k hlt
      by_cases hlim : (k : Int) < 4000
      · obtain ⟨y, hy, ey⟩ := and_mask (x * 131 + (c : Int) + 7) 1073741823 (by omega)
        have ey' : bits .and .i64 (x * 131 + (c : Int) + 7) 1073741823 = (y : Int) := ey
        have Hey := Lib.hid ey'
        clear ey ey'
        go_wp2
        go_round
        case rel => exact ⟨k + 1, (y : Int), by omega, by go_num, by rw [Hey.out], by omega, by omega⟩
        case measure => simp [intOf]; omega
      · go_wp2
        go_ret
        exact new_end hn hcode
    · go_wp2
      go_ret
      exact new_end hn hcode
end Go.Proofs.YtpmmjaceehlpiaaDoor

namespace Go.Proofs.YtpmmjaceehlpiaaDoor
open Go Go.RowKit

theorem only_alloc {w W : World} {r : Option Nat} (h : w.grownBy W r) (o : Obj) : w.grownBy (W.alloc o) r :=
  ⟨h.os, h.tape, h.output, Nat.le_trans h.size (by simp), fun k hk hne => (Below.heap_alloc W o k (Nat.lt_of_lt_of_le hk h.size)).trans (h.block k hk hne)⟩
theorem only_below {w W W' : World} {r : Option Nat} (h : w.grownBy W r) (hb : Below W.heap.size W W') : w.grownBy W' r :=
  ⟨hb.os.trans h.os, hb.tape.trans h.tape, hb.output.trans h.output, Nat.le_trans h.size hb.size, fun k hk hne => (hb.block k (Nat.lt_of_lt_of_le hk h.size)).trans (h.block k hk hne)⟩
theorem only_same (w : World) (r : Option Nat) : w.grownBy w r := ⟨rfl, rfl, rfl, Nat.le_refl _, fun _ _ _ => rfl⟩
theorem below_only {B g : Nat} {a w W : World} (h : Below B a w) (hg : w.grownBy W (some g)) (hB : B ≤ w.heap.size) (hBg : B ≤ g) : Below B a W :=
  h.grown hg hB fun k hk => by cases hk; exact hBg
theorem Cur.alloc {w : World} {g : Nat} (h : Cur w g) (o : Obj) : Cur (w.alloc o) g := h.keeps ((Below.refl _ _).alloc (Nat.le_refl _) _)

/-- A list beside the cursor. -/
def Beside (w : World) (g : Nat) (a : Option Addr) (xs : List Value) : Prop := ∀ k x, xs[k]? = some x → ∃ b o, a = some ⟨b, o, none⟩ ∧ b ≠ g ∧ b < w.heap.size ∧ w.cell? ⟨b, o + k, none⟩ = some x
theorem beside_new {w : World} {g : Nat} {t : TypeId} (cs : Array Value) (hg : g < w.heap.size) : Beside (w.alloc (.cells cs t)) g (some ⟨w.heap.size, 0, none⟩) cs.toList := by
  intro k x hx
  refine ⟨w.heap.size, 0, rfl, by omega, by simp, ?_⟩
  rw [World.cell?_alloc_at _ _ _ _ rfl, Nat.zero_add]
  simpa using hx

def PickEnd (g : Nat) (xs : List Value) (w : World) (e : Ending) (w' : World) : Prop := ∃ x ∈ xs, e = .returned x ∧ Cur w' g ∧ w.grownBy w' (some g)
theorem bigNo (a : Option Addr) (n cap : Nat) (w : World) (h : n ≤ 1048576) : Calls Tryd.prog 5 #[.slice a n cap] w fun e w' => e = .returned (.bool false) ∧ w = w' := by
  have hd : decide ((1048576 : Int) < (n : Int)) = false := by simp; omega
  go_enter Tryd.func5, Tryd.ntmps5
  go_wp2
  go_ret
  exact ⟨rfl, rfl⟩
theorem bigYes (a : Option Addr) (n cap : Nat) (w : World) (hm : n ≤ maxLen) (h : 1048576 < n) : Calls Tryd.prog 5 #[.slice a n cap] w fun e w' => e = .returned (.bool true) ∧ w = w' := by
  unfold maxLen at hm
  have hd : decide ((1048576 : Int) < (n : Int)) = true := by simp; omega
  go_enter Tryd.func5, Tryd.ntmps5
  go_wp2
  go_ret
  exact ⟨rfl, rfl⟩

open Go.ChangeShapes Go.WideShapes Go.ChangeAt in
/-- A []byte argument, opened. -/
theorem open_codes {H : Type} {enc : TypeId × Value → H} {P : Program} {W : World} {t e : TypeId} {v : Value} {d : DataW H} {ps : List MemPlace} {base : Nat}
    (ht : P.underlying t = some (.slice e)) (he : P.underlying e = some (.int .u8)) (hc : P.cellsOf e = 1) (hlt : ∀ x ∈ ps, x.block < W.heap.size)
    (hval : Value.okWide P W .any base t v) (h : DataW.Trod enc P W 0 (fun _ => true) true t v d ps) :
    ∃ (a : Option Addr) (n cap : Nat), v = .slice a n cap ∧ n ≤ cap ∧ n ≤ maxLen ∧ Code8 W W.heap.size n a := by
  obtain ⟨a0, len, cap, rfl⟩ := okWide_slice ht hval
  obtain ⟨fuel, hf⟩ := h
  rcases open_ints ht he hc hf with ⟨hcs, hx⟩ | ⟨a, len', cap', zs, hcs, _, hl, hm, hz, hx, hcell, hws⟩
  · simp [Value.cells] at hcs
    obtain ⟨rfl, rfl, rfl⟩ := hcs
    exact ⟨none, 0, 0, rfl, Nat.le_refl _, Nat.zero_le _, fun k hk => by omega⟩
  · simp [Value.cells] at hcs
    obtain ⟨rfl, rfl, rfl⟩ := hcs
    simp only [Prod.mk.injEq] at hx
    obtain ⟨rfl, rfl⟩ := hx
    simp only [if_true] at hz
    refine ⟨some a, len, cap, rfl, hl, by omega, fun k hk => ?_⟩
    have hkz : k < zs.length := by omega
    obtain ⟨b, off, spot⟩ := a
    have hspot : spot = none := by simpa [Addr.add] using World.cell?_spot (hcell 0 (by omega))
    subst hspot
    have hwf := u8_bounds (hws (zs.getD k 0) (by simp [List.getD, hkz]))
    refine ⟨b, off, (zs.getD k 0).toNat, rfl, hlt (.cell b (off + 0)) (MemPlace.mem_row.2 ⟨0, by omega, by simp⟩), by omega, ?_⟩
    rw [← add_plain, hcell k (by omega)]
    rw [Int.toNat_of_nonneg hwf.1]
end Go.Proofs.YtpmmjaceehlpiaaDoor

namespace Go.Proofs.YtpmmjaceehlpiaaDoor
open Go Go.RowKit

def FlagEnd (g : Nat) (w : World) (e : Ending) (w' : World) : Prop := ∃ b : Bool, e = .returned (.bool b) ∧ Cur w' g ∧ w.grownBy w' (some g)
theorem drawOnce (g n : Nat) (w : World) (h0 : 0 < n) (h1 : n ≤ 1099511627776) (hcur : Cur w g) : Calls Tryd.prog 30 #[.pointer (some ⟨g, 0, none⟩), .int .i64 (n : Int)] w (FlagEnd g w) := by
  go_enter Tryd.func30, Tryd.ntmps30
  go_wp2_with fail
  refine (drawBelow g n _ h0 h1 hcur).mono ?_
  rintro e w1 ⟨x, hx, rfl, hc1, hw1⟩
  go_wp2
  go_ret
  exact ⟨_, rfl, hc1, hw1⟩

end Go.Proofs.YtpmmjaceehlpiaaDoor

namespace Go.Proofs.YtpmmjaceehlpiaaDoor
open Go Go.RowKit

theorem drawPick (g cap : Nat) (a : Option Addr) (ss : List ByteArray) (w : World) (h0 : 0 < ss.length) (h1 : ss.length ≤ 1099511627776) (hcur : Cur w g) (hl : Beside w g a (strVals ss)) :
    Calls Tryd.prog 65 #[.pointer (some ⟨g, 0, none⟩), .slice a ss.length cap] w (PickEnd g (strVals ss) w) := by
  go_enter Tryd.func65, Tryd.ntmps65
  go_wp2_with fail
  refine (drawBelow g ss.length _ h0 h1 hcur).mono ?_
  rintro e w1 ⟨x, hx, rfl, hc1, hw1⟩
  obtain ⟨b, o, rfl, hbg, hbw, hc⟩ := hl x (.string ss[x]) (by simp [strVals, hx])
  have hc2 : w1.cell? ⟨b, o + x, none⟩ = some (.string ss[x]) := hw1.cell hc (by simpa using hbg)
  clear hc
  go_wp2
  go_ret
  exact ⟨.string ss[x], by simp [strVals], rfl, hc1, hw1⟩
end Go.Proofs.YtpmmjaceehlpiaaDoor

namespace Go.Proofs.YtpmmjaceehlpiaaDoor
open Go Go.RowKit

end Go.Proofs.YtpmmjaceehlpiaaDoor
/-
  The law's comparison of two []int: true where both hold the same numbers.
-/
namespace Go.Proofs.YtpmmjaceehlpiaaDoor
open Go Go.RowKit

def SameNumsEnd (r : Bool) (w : World) (e : Ending) (w' : World) : Prop := ∃ n, e = .returned (.bool r) ∧ w' = w.drewN n

set_option maxHeartbeats 400000 in
theorem eqInts (a b : Option Addr) (ca cb : Nat) (ns : List Int) (w : World) (hn : ns.length ≤ maxLen) (ha : Row w w.heap.size a (intVals ns)) (hb : Row w w.heap.size b (intVals ns)) :
    Calls Tryd.prog 60 #[.slice a ns.length ca, .slice b ns.length cb] w (SameNumsEnd true w) := by
  unfold maxLen at hn
  go_enter Tryd.func60, Tryd.ntmps60
  go_wp2
  go_loopw [5] (fun i wr => ∃ (k n : Nat), k ≤ ns.length ∧ i = .int .i64 k ∧ wr = w.drewN n) (fun i _ => ns.length - (intOf i).toNat)
  case atStart => exact ⟨0, 0, Nat.zero_le _, rfl, rfl⟩
  case round =>
    obtain ⟨k, n, hk, rfl, rfl⟩ := hrel
    by_cases hlt : k < ns.length
    · obtain ⟨ba, oa, rfl, _, hca⟩ := ha k (.int .i64 ns[k]) (intVals_at ns k hlt)
      obtain ⟨bb, ob, rfl, _, hcb⟩ := hb k (.int .i64 ns[k]) (intVals_at ns k hlt)
      go_wp2
      go_quiet (fail)
      go_wp2
      go_roundw
      case rel => exact ⟨k + 1, _, by omega, by go_num, rfl⟩
      case measure => simp [intOf]; omega
    · go_wp2
      go_ret
      exact ⟨_, rfl, rfl⟩
end Go.Proofs.YtpmmjaceehlpiaaDoor
/-
  The law writes marks into a []int of the program's answer, and looks later whether they are still there.
-/
namespace Go.Proofs.YtpmmjaceehlpiaaDoor
open Go Go.RowKit

def numsFrom (k n : Nat) : List Int := (List.range n).map fun i => ((k + i : Nat) : Int)
theorem numsFrom_length (k n : Nat) : (numsFrom k n).length = n := by simp [numsFrom]
theorem numsFrom_next (k n : Nat) : numsFrom k (n + 1) = numsFrom k n ++ [((k + n : Nat) : Int)] := by simp [numsFrom, List.range_succ]
theorem numsFrom_at (k n j : Nat) (h : j < n) : (intVals (numsFrom k n))[j]? = some (.int .i64 ((k + j : Nat) : Int)) := by
  simp [intVals, numsFrom, h]
theorem set_take_mark {α : Type} (ys : List α) (k : Nat) (x : α) (h : k < ys.length) : (ys.set k x).take (k + 1) = ys.take k ++ [x] := by
  rw [List.take_succ_eq_append_getElem (by simpa using h)]
  simp [List.take_set_of_le]

def MarkedNumsEnd (base k n : Nat) (a : Option Addr) (cap : Nat) (w : World) (e : Ending) (w' : World) : Prop :=
  e = .returned (.int .i64 ((k + n : Nat) : Int)) ∧ w'.ownsRow base 3 1 (.slice a n cap) n (intVals (numsFrom k n)) ∧ w.grownBy w' (Value.slice a n cap).ownBlock

set_option maxRecDepth 100000 in
set_option maxHeartbeats 400000 in
theorem markInts (base k n : Nat) (a : Option Addr) (cap : Nat) (xs : List Value) (w : World) (hn : n ≤ 549755813888) (hk : k ≤ 549755813888) (hown : w.ownsRow base 3 1 (.slice a n cap) n xs) :
    Calls Tryd.prog 62 #[.slice a n cap, .int .i64 k] w (MarkedNumsEnd base k n a cap w) := by
  go_enter Tryd.func62, Tryd.ntmps62
  go_wp2
  go_loopw [1, 5] (fun m i wr => ∃ (j : Nat) (ys : List Value), j ≤ n ∧ i = .int .i64 j ∧ m = .int .i64 ((k + j : Nat) : Int) ∧ ys.take j = intVals (numsFrom k j) ∧ ys.length = n ∧ wr.ownsRow base 3 1 (.slice a n cap) n ys ∧ w.grownBy wr (Value.slice a n cap).ownBlock)
    (fun _ i _ => n - (intOf i).toNat)
  case atStart => exact ⟨0, xs, Nat.zero_le _, rfl, rfl, by simp [intVals, numsFrom], by simpa using hown.1, hown, grown_self _ _⟩
  case round =>
    obtain ⟨j, ys, hj, rfl, rfl, hys, hyl, ho, hb⟩ := hrel
    by_cases hlt : j < n
    · obtain ⟨g, rfl⟩ : ∃ g, a = some ⟨g, 0, none⟩ := by
        rcases ho.2 with ⟨_, h0⟩ | ⟨g, _, _, hv, _⟩
        · omega
        · injection hv with hv _ _
          exact ⟨g, hv⟩
      have hklt : j < ys.length := by omega
      obtain ⟨old, hold⟩ : ∃ old, wr.cell? ⟨g, j, none⟩ = some old := ⟨_, (ho.cellAt j (by omega)).trans (List.getElem?_eq_getElem hklt)⟩
      have hfr := ho.frozenAt j
      have hst := ho.stored j (.int .i64 ((k + j : Nat) : Int))
      have Hys := Lib.hid hys
      have Hyl := Lib.hid hyl
      have Hst := Lib.hid hst.1
      clear hys hyl ho hst
      go_wp2
      go_roundw
      case rel => exact ⟨j + 1, ys.set j (.int .i64 ((k + j : Nat) : Int)), by omega, by go_num, by go_num, by rw [set_take_mark ys j _ hklt, Hys.out, numsFrom_next]; exact (intVals_snoc _ _).symm, by rw [List.length_set]; exact Hyl.out, (by have h := Hst.out; simpa using h), grown_cell hb⟩
      case measure => simp [intOf]; omega
    · have hjn : j = n := by omega
      subst hjn
      have hfull : ys = intVals (numsFrom k j) := by
        rw [List.take_of_length_le (by omega)] at hys
        exact hys
      subst hfull
      have Hyl := Lib.hid hyl
      clear hys hyl
      go_wp2
      go_ret
      exact ⟨rfl, ho, hb⟩

/-- All marks are there: the count behind the last. -/
def HeldNumsEnd (k n : Nat) (w : World) (e : Ending) (w' : World) : Prop := e = .returned (.int .i64 ((k + n : Nat) : Int)) ∧ w = w'

set_option maxRecDepth 100000 in
set_option maxHeartbeats 800000 in
theorem heldInts (k n : Nat) (a : Option Addr) (cap : Nat) (w : World) (hn : n ≤ 549755813888) (hk : k ≤ 549755813888) (hrow : Row w w.heap.size a (intVals (numsFrom k n))) :
    Calls Tryd.prog 63 #[.slice a n cap, .int .i64 k] w (HeldNumsEnd k n w) := by
  go_enter Tryd.func63, Tryd.ntmps63
  go_wp2
  go_loop [1, 5] (fun m i => ∃ (j : Nat), j ≤ n ∧ i = .int .i64 j ∧ m = .int .i64 ((k + j : Nat) : Int))
    (fun _ i => n - (intOf i).toNat)
  case atStart => exact ⟨0, Nat.zero_le _, rfl, rfl⟩
  case round =>
    obtain ⟨j, hj, rfl, rfl⟩ := hrel
    by_cases hlt : j < n
    · obtain ⟨b, o, rfl, hbW, hc⟩ := hrow j _ (numsFrom_at k n j hlt)
      go_wp2
      go_round
      case rel => exact ⟨j + 1, by omega, by go_num, by go_num⟩
      case measure => simp [intOf]; omega
    · have hjn : j = n := by omega
      subst hjn
      go_wp2
      go_ret
      exact ⟨rfl, rfl⟩
end Go.Proofs.YtpmmjaceehlpiaaDoor
/-
  The law's marks: the text of mark k is the letter m and k's decimal digits.
-/
namespace Go.Proofs.YtpmmjaceehlpiaaDoor
open Go Go.RowKit

def markS (k : Nat) : ByteArray := ⟨(109 :: Lib.decDigits k).toArray⟩
def MarkEnd (k : Nat) (w : World) (e : Ending) (w' : World) : Prop := e = .returned (.string (markS k)) ∧ Below w.heap.size w w'
theorem mark_next (k : Nat) (l : List UInt8) : Value.string ((⟨#[48 + UInt8.ofNat k]⟩ : ByteArray) ++ ⟨l.toArray⟩) = Value.string ⟨(UInt8.ofNat (48 + k) :: l).toArray⟩ := by
  rw [byte_split]
  exact congrArg Value.string (bytes_cons _ l)

set_option maxRecDepth 100000 in
set_option maxHeartbeats 400000 in
theorem markText_pos (N : Nat) (h0 : 0 < N) (h1 : N ≤ 1099511627776) (w : World) : Calls Tryd.prog 61 #[.int .i64 N] w (MarkEnd N w) := by
  go_enter Tryd.func61, Tryd.ntmps61
  go_wp2
  go_loopw [0, 3] (fun n out wr => ∃ (u : Nat) (l : List UInt8), u ≤ N ∧ n = .int .i64 u ∧ out = .string ⟨l.toArray⟩ ∧ digs u ++ l = digs N ∧ Below w.heap.size w wr) (fun n _ _ => (intOf n).toNat)
  case atStart => exact ⟨N, [], Nat.le_refl _, rfl, rfl, by simp, Below.refl _ _⟩
  case round =>
    obtain ⟨u, l, hu, rfl, rfl, hd, hb⟩ := hrel
    by_cases hlt : 0 < u
    · have hnx := digs_next hlt
      have hroom := digs_room hlt hd
      have hl : 1 + l.length ≤ 9223372036854775807 := by omega
      have Hd := Lib.hid hd
      have Hnx := Lib.hid hnx
      clear hd hnx hroom
      have kc : ∀ W : World, (convert 22 9 (.slice (some ⟨W.heap.size, 0, none⟩) 1 1)).run Tryd.prog (W.alloc (.cells #[.int .u8 (48 + (u : Int) % 10)] 5)) = .ok (.string ⟨#[UInt8.ofNat (48 + u % 10)]⟩) (W.alloc (.cells #[.int .u8 (48 + (u : Int) % 10)] 5)) := fun W => by
        have h := conv_byte (P := Tryd.prog) Tryd.underlying22 Tryd.underlying5 Tryd.underlying9 W (48 + u % 10) (by omega)
        have e : ((48 + u % 10 : Nat) : Int) = 48 + (u : Int) % 10 := by omega
        rw [e] at h
        exact h
      go_wp2
      go_roundw
      case rel => exact ⟨u / 10, UInt8.ofNat (48 + u % 10) :: l, by omega, by go_num, mark_next _ _, by rw [← Hd.out, Hnx.out]; simp, hb.alloc hb.size _⟩
      case measure => simp [intOf]; omega
    · have hu0 : u = 0 := by omega
      subst hu0
      have Hd := Lib.hid hd
      clear hd
      have hlen : 1 + l.length ≤ 9223372036854775807 := by
        have h := congrArg List.length Hd.out
        rw [digs_zero, List.nil_append, digs_next h0, List.length_append, List.length_singleton] at h
        have h2 := digs_length (N / 10) (N / 10) (Nat.le_refl _)
        omega
      have hfin : l = Lib.decDigits N := by
        have h := Hd.out
        rw [digs_zero, List.nil_append, digs_pos h0] at h
        exact h
      have Hfin := Lib.hid hfin
      clear hfin
      go_wp2
      go_ret
      exact ⟨by rw [markS, ← Hfin.out, ← bytes_cons]; rfl, hb⟩
theorem markText (N : Nat) (h1 : N ≤ 1099511627776) (w : World) : Calls Tryd.prog 61 #[.int .i64 N] w (MarkEnd N w) := by
  by_cases h0 : 0 < N
  · exact markText_pos N h0 h1 w
  · obtain rfl : N = 0 := by omega
    go_enter Tryd.func61, Tryd.ntmps61
    go_wp2
    go_ret
    exact ⟨by rw [markS, Lib.decDigits_one (by omega)]; rfl, Below.refl _ _⟩
end Go.Proofs.YtpmmjaceehlpiaaDoor
/-
  What a name is, the place of a string in a list, a list of variables, the positions of a number in a list.
-/
namespace Go.Proofs.YtpmmjaceehlpiaaDoor
open Go Go.RowKit

def goodName (s : ByteArray) : Bool := decide ((∀ k (h : k < s.size), 97 ≤ (s[k]'h).toNat ∧ (s[k]'h).toNat ≤ 122) ∧ 1 ≤ s.size ∧ s.size ≤ 2)
theorem name_bad {s : ByteArray} {k : Nat} (h : k < s.size) (hb : (s[k]'h).toNat < 97 ∨ 122 < (s[k]'h).toNat) : goodName s = false := by
  simp only [goodName, decide_eq_false_iff_not]
  intro hh
  have := hh.1 k h
  omega
theorem name_long {s : ByteArray} (h : 2 < s.size) : goodName s = false := by
  simp only [goodName, decide_eq_false_iff_not]
  omega
theorem name_whole {s : ByteArray} (h : ∀ k (h : k < s.size), 97 ≤ (s[k]'h).toNat ∧ (s[k]'h).toNat ≤ 122) : goodName s = decide (1 ≤ s.size ∧ s.size ≤ 2) := by
  simp only [goodName]
  congr 1
  simp only [eq_iff_iff]
  exact ⟨fun hh => hh.2, fun hh => ⟨h, hh⟩⟩

def placeFrom (s : ByteArray) : Nat → List ByteArray → Int
  | _, [] => -1
  | k, x :: xs => if (x.toList == s.toList) = true then (k : Int) else placeFrom s (k + 1) xs
def place (ss : List ByteArray) (s : ByteArray) : Int := placeFrom s 0 ss
theorem place_hit {ss : List ByteArray} {s : ByteArray} {k : Nat} (h : k < ss.length) (e : (ss[k].toList == s.toList) = true) : placeFrom s k (ss.drop k) = (k : Int) := by
  rw [List.drop_eq_getElem_cons h, placeFrom, if_pos e]
theorem place_miss {ss : List ByteArray} {s : ByteArray} {k : Nat} (h : k < ss.length) (e : (ss[k].toList == s.toList) = false) : placeFrom s k (ss.drop k) = placeFrom s (k + 1) (ss.drop (k + 1)) := by
  rw [List.drop_eq_getElem_cons h, placeFrom, if_neg (by simp [e])]
theorem place_end {ss : List ByteArray} {s : ByteArray} {k : Nat} (h : ss.length ≤ k) : placeFrom s k (ss.drop k) = -1 := by
  rw [List.drop_eq_nil_of_le h, placeFrom]
theorem placeFrom_bounds (s : ByteArray) : ∀ (ss : List ByteArray) (k : Nat), -1 ≤ placeFrom s k ss ∧ placeFrom s k ss < (k : Int) + ss.length + 1
  | [], k => by simp [placeFrom]; omega
  | x :: xs, k => by
    have := placeFrom_bounds s xs (k + 1)
    simp only [placeFrom, List.length_cons]
    split <;> omega
theorem place_bounds (ss : List ByteArray) (s : ByteArray) : -1 ≤ place ss s ∧ place ss s ≤ ss.length := by
  have := placeFrom_bounds s ss 0
  simp only [place]
  omega

def goodVars (ss : List ByteArray) : Bool := decide ((∀ k (h : k < ss.length), goodName ss[k] = true ∧ place ss ss[k] = (k : Int)) ∧ 1 ≤ ss.length ∧ ss.length ≤ 4)
theorem vars_bad {ss : List ByteArray} {k : Nat} (h : k < ss.length) (hb : ¬ (goodName ss[k] = true ∧ place ss ss[k] = (k : Int))) : goodVars ss = false := by
  simp only [goodVars, decide_eq_false_iff_not]
  exact fun hh => hb (hh.1 k h)
theorem vars_length {ss : List ByteArray} (h : ¬ (1 ≤ ss.length ∧ ss.length ≤ 4)) : goodVars ss = false := by
  simp only [goodVars, decide_eq_false_iff_not]
  exact fun hh => h hh.2
theorem vars_whole {ss : List ByteArray} (h : ∀ k (h : k < ss.length), goodName ss[k] = true ∧ place ss ss[k] = (k : Int)) : goodVars ss = decide (1 ≤ ss.length ∧ ss.length ≤ 4) := by
  simp only [goodVars]
  congr 1
  simp only [eq_iff_iff]
  exact ⟨fun hh => hh.2, fun hh => ⟨h, hh⟩⟩
theorem vars_at {ss : List ByteArray} (h : goodVars ss = true) {k : Nat} (hk : k < ss.length) : goodName ss[k] = true ∧ place ss ss[k] = (k : Int) := (of_decide_eq_true h).1 k hk

/-- Where a number stands in a list. -/
def posFrom (n : Int) : Nat → List Int → List Int
  | _, [] => []
  | k, z :: zs => if z = n then (k : Int) :: posFrom n (k + 1) zs else posFrom n (k + 1) zs
theorem pos_hit {zs : List Int} {n : Int} {k : Nat} (h : k < zs.length) (e : zs[k] = n) : posFrom n k (zs.drop k) = (k : Int) :: posFrom n (k + 1) (zs.drop (k + 1)) := by
  rw [List.drop_eq_getElem_cons h, posFrom, if_pos e]
theorem pos_miss {zs : List Int} {n : Int} {k : Nat} (h : k < zs.length) (e : zs[k] ≠ n) : posFrom n k (zs.drop k) = posFrom n (k + 1) (zs.drop (k + 1)) := by
  rw [List.drop_eq_getElem_cons h, posFrom, if_neg e]
theorem pos_end {zs : List Int} {n : Int} {k : Nat} (h : zs.length ≤ k) : posFrom n k (zs.drop k) = [] := by
  rw [List.drop_eq_nil_of_le h, posFrom]
theorem posFrom_length (n : Int) : ∀ (zs : List Int) (k : Nat), (posFrom n k zs).length ≤ zs.length
  | [], _ => by simp [posFrom]
  | z :: zs, k => by
    have := posFrom_length n zs (k + 1)
    simp only [posFrom, List.length_cons]
    split
    · simp; omega
    · omega
theorem posFrom_mem (n : Int) : ∀ (zs : List Int) (k : Nat) (z : Int), z ∈ posFrom n k zs → ∃ j : Nat, z = ((k + j : Nat) : Int) ∧ ∃ h : j < zs.length, zs[j] = n
  | [], _, _, h => by simp [posFrom] at h
  | x :: xs, k, z, h => by
    have hrec : z ∈ posFrom n (k + 1) xs → ∃ j : Nat, z = ((k + j : Nat) : Int) ∧ ∃ h : j < (x :: xs).length, (x :: xs)[j] = n := by
      intro h
      obtain ⟨j, e, hj, hn⟩ := posFrom_mem n xs (k + 1) z h
      exact ⟨j + 1, by rw [e]; congr 1; omega, by simp; omega, by simpa using hn⟩
    simp only [posFrom] at h
    split at h
    · rename_i hx
      rcases List.mem_cons.1 h with e | h
      · exact ⟨0, by simpa using e, by simp, by simpa using hx⟩
      · exact hrec h
    · exact hrec h
theorem posFrom_lt (n : Int) : ∀ (zs : List Int) (k : Nat), (posFrom n k zs).Pairwise (· < ·)
  | [], _ => by simp [posFrom]
  | x :: xs, k => by
    have h := posFrom_lt n xs (k + 1)
    simp only [posFrom]
    split
    · refine List.pairwise_cons.2 ⟨fun z hz => ?_, h⟩
      obtain ⟨j, e, _⟩ := posFrom_mem n xs (k + 1) z hz
      omega
    · exact h
end Go.Proofs.YtpmmjaceehlpiaaDoor
/-
  How many names a kind of statement uses: the table of the program, the walks of the program's function and of the model's.
-/
namespace Go.Proofs.YtpmmjaceehlpiaaDoor
open Go Go.RowKit

def namesN (k : Int) : Int := if k = 1 then 0 else if k = 2 ∨ k = 3 ∨ k = 6 ∨ k = 8 ∨ k = 9 ∨ k = 10 then 1 else if k = 4 ∨ k = 5 ∨ k = 7 ∨ k = 11 ∨ k = 12 then 2 else -1
theorem kinds {k : Int} (h : 1 ≤ k ∧ k ≤ 12) : k = 1 ∨ k = 2 ∨ k = 3 ∨ k = 4 ∨ k = 5 ∨ k = 6 ∨ k = 7 ∨ k = 8 ∨ k = 9 ∨ k = 10 ∨ k = 11 ∨ k = 12 := by omega
theorem namesN_none {k : Int} (h : ¬ (1 ≤ k ∧ k ≤ 12)) : namesN k = -1 := by
  unfold namesN
  rw [if_neg (by omega), if_neg (by omega), if_neg (by omega)]
theorem namesN_four (k : Int) : namesN k = -1 ∨ namesN k = 0 ∨ namesN k = 1 ∨ namesN k = 2 := by
  unfold namesN
  split
  · exact .inr (.inl rfl)
  · split
    · exact .inr (.inr (.inl rfl))
    · split
      · exact .inr (.inr (.inr rfl))
      · exact .inl rfl

def HasNamesTable (w : World) : Prop := w.var? Tryd.prog "loop.example/g00590/impl.namesTable" = some #[Value.int .i64 0, .int .i64 0, .int .i64 1, .int .i64 1, .int .i64 2, .int .i64 2, .int .i64 1, .int .i64 2, .int .i64 1, .int .i64 1, .int .i64 1, .int .i64 2, .int .i64 2]
theorem HasNamesTable.keeps {w w' : World} (h : HasNamesTable w) (hb : Below w.heap.size w w') : HasNamesTable w' := var_stays h hb
theorem gNamesTable : Tryd.prog.globalNamed "loop.example/g00590/impl.namesTable" = some 1 := by kernel_rfl
theorem namesTable_of {W : World} (i : Nat) {l : List (String × DataW Unit)} (h : laidMet Tryd.prog l W) (hi : l[i]? = some ("loop.example/g00590/impl.namesTable", Rows.laid_loop_example_g00590_impl_namesTable)) : HasNamesTable W :=
  (laid_at (t := 96) i h hi gNamesTable (by kernel_rfl) (by kernel_rfl)).trans (congrArg some (show (flat Rows.laid_loop_example_g00590_impl_namesTable).toArray = _ by kernel_rfl))
theorem HasNamesTable.cell {w : World} (h : HasNamesTable w) (i : Nat) : w.cell? ⟨1, i, none⟩ = (#[Value.int .i64 0, .int .i64 0, .int .i64 1, .int .i64 1, .int .i64 2, .int .i64 2, .int .i64 1, .int .i64 2, .int .i64 1, .int .i64 1, .int .i64 1, .int .i64 2, .int .i64 2])[i]? := World.var?_cell gNamesTable h i

/-- It returned x, and nothing has turned. -/
def GaveW (x : Value) (w : World) (e : Ending) (w' : World) : Prop := e = .returned x ∧ w = w'

set_option maxHeartbeats 800000 in
theorem implNamesOf (k : Int) (w : World) (hT : HasNamesTable w) : Calls Tryd.prog 66 #[.int .i64 k] w (GaveW (.int .i64 (namesN k)) w) := by
  by_cases h : 1 ≤ k ∧ k ≤ 12
  · have c1 : w.cell? ⟨1, 1, none⟩ = some (.int .i64 0) := hT.cell 1
    have c2 : w.cell? ⟨1, 2, none⟩ = some (.int .i64 1) := hT.cell 2
    have c3 : w.cell? ⟨1, 3, none⟩ = some (.int .i64 1) := hT.cell 3
    have c4 : w.cell? ⟨1, 4, none⟩ = some (.int .i64 2) := hT.cell 4
    have c5 : w.cell? ⟨1, 5, none⟩ = some (.int .i64 2) := hT.cell 5
    have c6 : w.cell? ⟨1, 6, none⟩ = some (.int .i64 1) := hT.cell 6
    have c7 : w.cell? ⟨1, 7, none⟩ = some (.int .i64 2) := hT.cell 7
    have c8 : w.cell? ⟨1, 8, none⟩ = some (.int .i64 1) := hT.cell 8
    have c9 : w.cell? ⟨1, 9, none⟩ = some (.int .i64 1) := hT.cell 9
    have c10 : w.cell? ⟨1, 10, none⟩ = some (.int .i64 1) := hT.cell 10
    have c11 : w.cell? ⟨1, 11, none⟩ = some (.int .i64 2) := hT.cell 11
    have c12 : w.cell? ⟨1, 12, none⟩ = some (.int .i64 2) := hT.cell 12
    rcases kinds h with rfl | rfl | rfl | rfl | rfl | rfl | rfl | rfl | rfl | rfl | rfl | rfl
    all_goals
      clear h hT
      go_enter Tryd.func66, Tryd.ntmps66
      go_wp2
      go_ret
      exact ⟨rfl, rfl⟩
  · rw [namesN_none h]
    by_cases h1 : k < 1
    · go_enter Tryd.func66, Tryd.ntmps66
      go_wp2
      go_ret
      exact ⟨rfl, rfl⟩
    · have h2 : 12 < k := by omega
      go_enter Tryd.func66, Tryd.ntmps66
      go_wp2
      go_ret
      exact ⟨rfl, rfl⟩

set_option maxHeartbeats 800000 in
theorem specNamesOf (k : Int) (w : World) : Calls Tryd.prog 64 #[.int .i64 k] w (GaveW (.int .i64 (namesN k)) w) := by
  by_cases h : 1 ≤ k ∧ k ≤ 12
  · rcases kinds h with rfl | rfl | rfl | rfl | rfl | rfl | rfl | rfl | rfl | rfl | rfl | rfl
    all_goals
      clear h
      go_enter Tryd.func64, Tryd.ntmps64
      go_wp2
      go_ret
      exact ⟨rfl, rfl⟩
  · rw [namesN_none h]
    have h1 : (k == 1) = false := by simp only [beq_eq_false_iff_ne, ne_eq]; omega
    have h2 : (k == 2) = false := by simp only [beq_eq_false_iff_ne, ne_eq]; omega
    have h3 : (k == 3) = false := by simp only [beq_eq_false_iff_ne, ne_eq]; omega
    have h4 : (k == 4) = false := by simp only [beq_eq_false_iff_ne, ne_eq]; omega
    have h5 : (k == 5) = false := by simp only [beq_eq_false_iff_ne, ne_eq]; omega
    have h6 : (k == 6) = false := by simp only [beq_eq_false_iff_ne, ne_eq]; omega
    have h7 : (k == 7) = false := by simp only [beq_eq_false_iff_ne, ne_eq]; omega
    have h8 : (k == 8) = false := by simp only [beq_eq_false_iff_ne, ne_eq]; omega
    have h9 : (k == 9) = false := by simp only [beq_eq_false_iff_ne, ne_eq]; omega
    have h10 : (k == 10) = false := by simp only [beq_eq_false_iff_ne, ne_eq]; omega
    have h11 : (k == 11) = false := by simp only [beq_eq_false_iff_ne, ne_eq]; omega
    have h12 : (k == 12) = false := by simp only [beq_eq_false_iff_ne, ne_eq]; omega
    clear h
    go_enter Tryd.func64, Tryd.ntmps64
    go_wp2
    go_ret
    exact ⟨rfl, rfl⟩
end Go.Proofs.YtpmmjaceehlpiaaDoor
/-
  The law's own copy of a []int: a new row with the same numbers.
-/
namespace Go.Proofs.YtpmmjaceehlpiaaDoor
open Go Go.RowKit

theorem intInfo : (Tryd.prog.info? 3).map (fun i => (i.zero, i.size, i.bytes)) = some (some (.int .i64 0), 1, 8) := by kernel_rfl

/-- A new slice at the heap's end that holds the numbers; nothing old has turned. -/
def CopyNumsEnd (ns : List Int) (w : World) (e : Ending) (w' : World) : Prop :=
  e = .returned (.slice (some ⟨w.heap.size, 0, none⟩) ns.length ns.length) ∧ w'.ownsRow w.heap.size 3 1 (.slice (some ⟨w.heap.size, 0, none⟩) ns.length ns.length) ns.length (intVals ns) ∧ Below w.heap.size w w'

theorem set_take_num {α : Type} (ys : List α) (k : Nat) (x : α) (h : k < ys.length) : (ys.set k x).take (k + 1) = ys.take k ++ [x] := by
  rw [List.take_succ_eq_append_getElem (by simpa using h)]
  simp [List.take_set_of_le]

set_option maxHeartbeats 400000 in
theorem toInts (a : Option Addr) (cap : Nat) (ns : List Int) (w : World) (hn : ns.length ≤ 1099511627776) (hrow : Row w w.heap.size a (intVals ns)) :
    Calls Tryd.prog 59 #[.slice a ns.length cap] w (CopyNumsEnd ns w) := by
  obtain ⟨i0, hi, hz0, hz1, hz2⟩ := info_parts intInfo
  go_enter Tryd.func59, Tryd.ntmps59
  go_wp2_with (at_make; refine wpList_make_full _ rfl _ _ 27 rfl w.heap.size 3 i0 (.int .i64 0) 1 Tryd.underlying27 hi hz0 hz1 _ _ _ _ ns.length rfl rfl rfl rfl ?b2 ?b3 (Nat.le_refl _) ?_)
  case b2 => rw [hz2]; omega
  case b3 => unfold maxLen; omega
  intro w0 hown0 hgrow0
  go_wp2
  go_loopw [4] (fun i wr => ∃ (k : Nat) (ys : List Value), k ≤ ns.length ∧ i = .int .i64 k ∧ ys.take k = intVals (ns.take k) ∧ ys.length = ns.length ∧
      wr.ownsRow w.heap.size 3 1 (.slice (some ⟨w.heap.size, 0, none⟩) ns.length ns.length) ns.length ys ∧ Below w.heap.size w wr)
    (fun i _ => ns.length - (intOf i).toNat)
  case atStart => exact ⟨0, _, Nat.zero_le _, rfl, by simp [intVals], by simpa using hown0.1, hown0, (Below.refl _ _).grown hgrow0 (Nat.le_refl _) (fun k h => by cases h)⟩
  case round =>
    obtain ⟨k, ys, hk, rfl, hys, hyl, hown, hb⟩ := hrel
    by_cases hlt : k < ns.length
    · obtain ⟨b, o, rfl, hbW, hc⟩ := hrow k (.int .i64 ns[k]) (intVals_at ns k hlt)
      have hc1 : wr.cell? ⟨b, o + k, none⟩ = some (.int .i64 ns[k]) := (hb.cell (p := ⟨b, o + k, none⟩) hbW).trans hc
      obtain ⟨old, hold⟩ : ∃ old, wr.cell? ⟨w.heap.size, k, none⟩ = some old := ⟨_, (hown.cellAt k (by omega)).trans (List.getElem?_eq_getElem (by omega))⟩
      have hfr := hown.frozenAt k
      have hst := hown.stored k (.int .i64 ns[k])
      have Hys := Lib.hid hys
      have Hyl := Lib.hid hyl
      have hklt : k < ys.length := by omega
      clear hys hyl hown hc
      go_wp2
      go_roundw
      case rel => exact ⟨k + 1, ys.set k (.int .i64 ns[k]), by omega, by go_num, by rw [set_take_num ys k _ hklt, Hys.out, take_next ns k hlt]; exact (intVals_snoc _ _).symm, by rw [List.length_set]; exact Hyl.out, hst.1, hb.setCell (by exact Nat.le_refl _) _⟩
      case measure => simp [intOf]; omega
    · have hk' : k = ns.length := by omega
      have Hk := Lib.hid hk'
      have Hys := Lib.hid hys
      have Hyl := Lib.hid hyl
      clear hk' hys hyl
      go_wp2
      go_ret
      have hfull : ys = intVals ns := by
        have h1 := Hys.out
        rw [Hk.out, List.take_length, List.take_of_length_le (by rw [Hyl.out]; exact Nat.le_refl _)] at h1
        exact h1
      rw [hfull] at hown
      exact ⟨rfl, hown, hb⟩
end Go.Proofs.YtpmmjaceehlpiaaDoor
/-
  The draws of chapter 2: a name, a list of names, a list of numbers: of what is drawn only the range is told.
-/
namespace Go.Proofs.YtpmmjaceehlpiaaDoor
open Go Go.RowKit

theorem Cur.upto {w w' : World} {g : Nat} (h : Cur w g) (hb : Below (g + 1) w w') : Cur w' g := by
  obtain ⟨a, n, cap, i, x, hg, h1, h2, h3⟩ := h
  exact ⟨a, n, cap, i, x, (hb.block g (by omega)).trans hg, h1, h2, h3.keeps fun p hp => hb.cell (by omega)⟩
theorem Cur.own {w w' : World} {g : Nat} {e n : Nat} {v : Value} {xs : List Value} (h : Cur w g) (hown : w.ownsRow (g + 1) e 1 v n xs) (hg : w.grownBy w' v.ownBlock) : Cur w' g :=
  h.upto ((Below.refl _ _).grown hg h.lt fun k hk => (hown.lt k hk).1)
theorem own_drawn {w w' : World} {g : Nat} {e n : Nat} {v : Value} {xs : List Value} (hown : w.ownsRow (g + 1) e 1 v n xs) (hg : w.grownBy w' (some g)) : w'.ownsRow (g + 1) e 1 v n xs :=
  own_other hown hg fun k hk e => by
    have := (hown.lt k hk).1
    injection e with e
    omega

def drawnNames : List ByteArray := [⟨#[120]⟩, ⟨#[97, 98]⟩, ⟨#[97, 98, 99]⟩, ⟨#[]⟩, ⟨#[88]⟩, ⟨#[120, 49]⟩, ⟨#[97, 45]⟩]
theorem drawnNames_size : ∀ s ∈ drawnNames, s.size ≤ 21 := by decide
def ShortTextEnd (w : World) (e : Ending) (w' : World) : Prop := ∃ s : ByteArray, s.size ≤ 21 ∧ e = .returned (.string s) ∧ Below w.heap.size w w'
def drawnVars : List ByteArray := [⟨#[120]⟩, ⟨#[121]⟩, ⟨#[116]⟩, ⟨#[112]⟩, ⟨#[113, 113]⟩, ⟨#[88]⟩]
theorem drawnVars_size : ∀ s ∈ drawnVars, s.size ≤ 21 := by decide
/-- A list of short strings, drawn. -/
def DrawnStrs (w : World) (e : Ending) (w' : World) : Prop :=
  ∃ (a : Option Addr) (cap : Nat) (ss : List ByteArray), e = .returned (.slice a ss.length cap) ∧ ss.length ≤ 6 ∧ (∀ s ∈ ss, s.size ≤ 21) ∧ w'.ownsRow w.heap.size 9 1 (.slice a ss.length cap) ss.length (strVals ss) ∧ Below w.heap.size w w'
theorem drawn_end {w w' : World} {base : Nat} {v : Value} {qs : List ByteArray} (hw : w.heap.size ≤ base) (hl : qs.length ≤ 6) (hs : ∀ s ∈ qs, s.size ≤ 21) (h : w'.ownsRow base 9 1 v qs.length (strVals qs)) (hb : Below w.heap.size w w') : DrawnStrs w (.returned v) w' := by
  obtain ⟨a5, c5, hv5⟩ : ∃ a5 c5, v = .slice a5 qs.length c5 := by
    rcases h.2 with ⟨h1, h2⟩ | ⟨g5, c5, _, h1, _⟩
    · exact ⟨none, 0, by rw [h1, h2]⟩
    · exact ⟨_, c5, h1⟩
  subst hv5
  exact ⟨a5, c5, qs, rfl, hl, hs, own_base h hw, hb⟩
theorem all_snoc {α : Type} {P : α → Prop} {l : List α} {x : α} (h : ∀ y ∈ l, P y) (hx : P x) : ∀ y ∈ l ++ [x], P y := by
  intro y hy
  rcases List.mem_append.1 hy with h1 | h1
  · exact h y h1
  · rw [List.mem_singleton.1 h1]
    exact hx
theorem strInfo2 : (Tryd.prog.info? 9).map (fun i => (i.zero, i.size, i.bytes)) = some (some (.string ⟨#[]⟩), 1, 16) := by kernel_rfl
def drawnKeys : List ByteArray := [⟨#[120]⟩, ⟨#[121]⟩, ⟨#[122, 122]⟩]
theorem drawnKeys_size : ∀ s ∈ drawnKeys, s.size ≤ 21 := by decide
def DrawnStrsKey (w : World) (e : Ending) (w' : World) : Prop :=
  ∃ (a : Option Addr) (cap : Nat) (ss : List ByteArray) (s : ByteArray), e = .returned (.tuple #[.slice a ss.length cap, .string s]) ∧ ss.length ≤ 6 ∧ s.size ≤ 21 ∧ (∀ s ∈ ss, s.size ≤ 21) ∧ Row w' w'.heap.size a (strVals ss) ∧ Below w.heap.size w w'
/-- A list of small ints and one, drawn. -/
def DrawnInts (w : World) (e : Ending) (w' : World) : Prop :=
  ∃ (a : Option Addr) (cap : Nat) (ns : List Int) (n : Int), e = .returned (.tuple #[.slice a ns.length cap, .int .i64 n]) ∧ ns.length ≤ 6 ∧ Row w' w'.heap.size a (intVals ns) ∧ Below w.heap.size w w'
theorem drawnInts_end {w w' : World} {base e : Nat} {v : Value} {qs : List Int} {n : Int} (hl : qs.length ≤ 6) (h : w'.ownsRow base e 1 v qs.length (intVals qs)) (hb : Below w.heap.size w w') : DrawnInts w (.returned (.tuple #[v, .int .i64 n])) w' := by
  obtain ⟨a5, c5, hv5⟩ : ∃ a5 c5, v = .slice a5 qs.length c5 := by
    rcases h.2 with ⟨h1, h2⟩ | ⟨g5, c5, _, h1, _⟩
    · exact ⟨none, 0, by rw [h1, h2]⟩
    · exact ⟨_, c5, h1⟩
  subst hv5
  exact ⟨a5, c5, qs, n, rfl, hl, Row.owned h, hb⟩
theorem intInfo2 : (Tryd.prog.info? 3).map (fun i => (i.zero, i.size, i.bytes)) = some (some (.int .i64 0), 1, 8) := by kernel_rfl
end Go.Proofs.YtpmmjaceehlpiaaDoor
/-
  Heaps as values: two rows of numbers; an argument that is a heap, opened; the law's size guard, its copy, its comparison, its marks.
-/
namespace Go.Proofs.YtpmmjaceehlpiaaDoor
open Go Go.Joins Go.ChangeShapes Go.WideShapes Go.ChangeAt Go.RowKit Go.Deep

abbrev heV (a : Option Addr) (n ca : Nat) (b : Option Addr) (m cb : Nat) : Value := .agg #[.slice a n ca, .slice b m cb]
theorem cellsB {W w1 : World} (hb : Below W.heap.size W w1) : (∀ b o, b < W.heap.size → w1.cell? ⟨b, o, none⟩ = W.cell? ⟨b, o, none⟩) ∧ (∀ b o, b < W.heap.size → w1.frozen? ⟨b, o, none⟩ = W.frozen? ⟨b, o, none⟩) :=
  ⟨fun b o h => hb.cell (p := ⟨b, o, none⟩) h, fun b o h => hb.frozen (p := ⟨b, o, none⟩) h⟩

/-- The two cells of a box. -/
abbrev Box2 (W : World) (g : Nat) (x y : Value) : Prop := W.cell? ⟨g, 0, none⟩ = some x ∧ W.cell? ⟨g, 1, none⟩ = some y
theorem Box2.keep {W W' : World} {g : Nat} {x y : Value} (h : Box2 W g x y) (hg : g < W.heap.size) (hb : Below W.heap.size W W') : Box2 W' g x y :=
  ⟨(hb.cell (p := ⟨g, 0, none⟩) hg).trans h.1, (hb.cell (p := ⟨g, 1, none⟩) hg).trans h.2⟩
theorem Box2.turn {lo hi : Nat} {W W' : World} {g : Nat} {x y : Value} (h : Box2 W g x y) (hg : g < W.heap.size) (t : Turn lo hi W W') (hd : g < lo ∨ hi ≤ g) : Box2 W' g x y :=
  ⟨(World.cell?_of_block (t.block g hg hd)).trans h.1, (World.cell?_of_block (t.block g hg hd)).trans h.2⟩
theorem one_box2 (w : World) (u0 u1 : Value) (t : TypeId) : ∃ W0, w.alloc (.cells #[u0, u1] t) = W0 ∧ Below w.heap.size w W0 ∧ w.heap.size < W0.heap.size ∧ Box2 W0 w.heap.size u0 u1 :=
  ⟨_, rfl, (Below.refl _ _).alloc (Nat.le_refl _) _, by simp, by simp [Box2, go_sem]⟩
theorem two_box2 (w : World) (u0 u1 v0 v1 : Value) (t t' : TypeId) : ∃ W0, (w.alloc (.cells #[u0, u1] t)).alloc (.cells #[v0, v1] t') = W0 ∧ Below w.heap.size w W0 ∧ w.heap.size + 1 < W0.heap.size ∧ Box2 W0 w.heap.size u0 u1 ∧ Box2 W0 (w.heap.size + 1) v0 v1 :=
  ⟨_, rfl, ((Below.refl _ _).alloc (Nat.le_refl _) _).alloc (by simp) _, by simp, by simp [Box2, go_sem], by simp [Box2, go_sem]⟩

/-- The rows of a heap: they may be read. -/
structure HeapAt (W : World) (a b : Option Addr) (vs zs : List Int) : Prop where
  v : Row W W.heap.size a (intVals vs)
  z : Row W W.heap.size b (intVals zs)
theorem HeapAt.again {W : World} {a b : Option Addr} {vs zs : List Int} (h : HeapAt W a b vs zs) (d : Nat) (os : Array Obj) : HeapAt (Go.Sort.grow (redrawn W d) os) a b vs zs := ⟨row_again h.v d os, row_again h.z d os⟩
theorem HeapAt.below {W W' : World} {B : Nat} {a b : Option Addr} {vs zs : List Int} (h : HeapAt W a b vs zs) (hb : Below B W W') (hB : W.heap.size ≤ B) : HeapAt W' a b vs zs :=
  ⟨(h.v.below (hb.mono hB)).grow hb.size, (h.z.below (hb.mono hB)).grow hb.size⟩
/-- A heap that a call made, in blocks from lo on, below hi: its rows may be written, and lie apart. -/
structure HeapIn (lo hi : Nat) (W : World) (a : Option Addr) (ca : Nat) (b : Option Addr) (cb : Nat) (vs zs : List Value) : Prop where
  v : OwnIn lo hi W 3 1 (.slice a vs.length ca) vs.length vs
  z : OwnIn lo hi W 3 1 (.slice b zs.length cb) zs.length zs
  apart : ∀ j, (Value.slice a vs.length ca).ownBlock = some j → (Value.slice b zs.length cb).ownBlock ≠ some j
section
variable {lo hi lo' hi' : Nat} {W W' : World} {a b : Option Addr} {ca cb : Nat}
theorem HeapIn.turn {vs zs : List Value} (h : HeapIn lo hi W a ca b cb vs zs) (t : Turn lo' hi' W W') (hd : hi ≤ lo' ∨ hi' ≤ lo) : HeapIn lo hi W' a ca b cb vs zs := ⟨h.v.turn t hd, h.z.turn t hd, h.apart⟩
theorem HeapIn.below {vs zs : List Value} (h : HeapIn lo hi W a ca b cb vs zs) (hb : Below W.heap.size W W') : HeapIn lo hi W' a ca b cb vs zs := ⟨h.v.below hb, h.z.below hb, h.apart⟩
theorem HeapIn.mono {vs zs : List Value} (h : HeapIn lo hi W a ca b cb vs zs) (h1 : lo' ≤ lo) (h2 : hi ≤ hi') (h3 : hi' ≤ W.heap.size) : HeapIn lo' hi' W a ca b cb vs zs := ⟨h.v.mono h1 h2 h3, h.z.mono h1 h2 h3, h.apart⟩
theorem HeapIn.rows {vs zs : List Int} (h : HeapIn lo hi W a ca b cb (intVals vs) (intVals zs)) : HeapAt W a b vs zs := ⟨h.v.row, h.z.row⟩
end

/-- A []int that lies in a struct, opened. -/
theorem open_nums_in {H : Type} {enc : TypeId × Value → H} {P : Program} {W : World} {t e : TypeId} {v : Value} {n : Nat} {y : DataW H × List MemPlace}
    (ht : P.underlying t = some (.slice e)) (he : P.underlying e = some (.int .i64)) (hc : P.cellsOf e = 1) (hlt : ∀ x ∈ y.2, x.block < W.heap.size)
    (h : DataW.trod enc P W 0 (fun _ => true) true n t [v] = some y) :
    ∃ (a : Option Addr) (cap : Nat) (ns : List Int), v = .slice a ns.length cap ∧ ns.length ≤ cap ∧ ns.length ≤ maxLen ∧ Row W W.heap.size a (intVals ns) ∧ (∀ n ∈ ns, -9223372036854775808 ≤ n ∧ n ≤ 9223372036854775807) := by
  rcases open_ints ht he hc h with ⟨hcs, hx⟩ | ⟨a, len, cap, ss, hcs, _, hl, hm, hz, hx, hcell, hws⟩
  · simp only [List.cons.injEq, and_true] at hcs
    subst hcs
    exact ⟨none, 0, [], rfl, Nat.le_refl _, Nat.zero_le _, Row.nil_, fun s hs => by simp at hs⟩
  · simp only [List.cons.injEq, and_true] at hcs
    subst hcs
    subst hx
    simp only [if_true] at hz
    have hlen : (ss.take len).length = len := by simp; omega
    refine ⟨some a, cap, ss.take len, by rw [hlen], by omega, by omega, ?_, fun s hs => i64_bounds (hws s (List.mem_of_mem_take hs))⟩
    intro k x hx
    obtain ⟨hk, rfl⟩ := List.getElem?_eq_some_iff.1 hx
    have hk' : k < len := by simpa [intVals, hz] using (Nat.lt_of_lt_of_le hk (by simp [intVals]; omega) : k < len)
    obtain ⟨b, off, spot⟩ := a
    have hspot : spot = none := by simpa [Addr.add] using World.cell?_spot (hcell 0 (by omega))
    subst hspot
    refine ⟨b, off, rfl, hlt (.cell b (off + 0)) (MemPlace.mem_row.2 ⟨0, by omega, by simp⟩), ?_⟩
    rw [← add_plain, hcell k (by omega)]
    have hk2 : k < ss.length := by omega
    simp [intVals, List.getD, hk2]

/-- What an argument's heap keeps. -/
structure HeapOk (W : World) (a b : Option Addr) (vs zs : List Int) : Prop where
  at_ : HeapAt W a b vs zs
  lv : vs.length ≤ maxLen
  lz : zs.length ≤ maxLen
  bv : ∀ n ∈ vs, -9223372036854775808 ≤ n ∧ n ≤ 9223372036854775807
  bz : ∀ n ∈ zs, -9223372036854775808 ≤ n ∧ n ≤ 9223372036854775807
/-- An argument that is a heap, opened. -/
theorem open_heap {H : Type} {enc : TypeId × Value → H} {P : Program} {W : World} {r : Reach} {b0 : Nat} {t : TypeId} {q0 q1 : Field} {v : Value} {d : DataW H} {p : List MemPlace} {e : TypeId}
    (hp : P.underlying t = some (.struct #[q0, q1])) (hone : oneCellFields P #[q0, q1] = true) (hCp : P.cellsOf t = 2)
    (hq0 : P.underlying q0.type = some (.slice e)) (hq1 : P.underlying q1.type = some (.slice e)) (he : P.underlying e = some (.int .i64)) (hce : P.cellsOf e = 1) (hlt : ∀ x ∈ p, x.block < W.heap.size)
    (hv : Value.okWide P W r b0 t v) (h : DataW.Trod enc P W 0 (fun _ => true) true t v d p) :
    ∃ (a : Option Addr) (ca : Nat) (vs : List Int) (b : Option Addr) (cb : Nat) (zs : List Int), v = heV a vs.length ca b zs.length cb ∧ HeapOk W a b vs zs := by
  obtain ⟨v0, v1, y0, y1, n, rfl, _, rfl, e0, e1⟩ := open_agg2 hp hone hCp hv h
  obtain ⟨a, ca, vs, rfl, _, l0, r0, w0⟩ := open_nums_in hq0 he hce (fun x hx => hlt x (by simp [hx])) e0
  obtain ⟨b, cb, zs, rfl, _, l1, r1, w1⟩ := open_nums_in hq1 he hce (fun x hx => hlt x (by simp [hx])) e1
  exact ⟨a, ca, vs, b, cb, zs, rfl, ⟨r0, r1⟩, l0, l1, w0, w1⟩

/-- The guard's answer over a row of numbers. -/
theorem szInts (a : Option Addr) (cap n : Nat) (left : Nat) (w : World) (hl : left ≤ 1099511627776) (hn : n ≤ maxLen) :
    Calls Tryd.prog 58 #[.slice a n cap, .int .i64 left] w fun e w' => ∃ r : Int, e = .returned (.int .i64 r) ∧ w = w' ∧ r ≤ left ∧ (0 ≤ r → (n : Int) + r = left) := by
  unfold maxLen at hn
  by_cases h0 : left < n
  · have hb : (left : Int) - n < 0 := by omega
    go_enter Tryd.func58, Tryd.ntmps58
    go_wp2
    go_ret
    exact ⟨-1, rfl, rfl, by omega, fun h => by omega⟩
  · have hb : ¬ (left : Int) - n < 0 := by omega
    go_enter Tryd.func58, Tryd.ntmps58
    go_wp2
    go_ret
    exact ⟨(left : Int) - n, rfl, rfl, by omega, fun h => by omega⟩
/-- .. over a heap. -/
theorem szHeap (a b : Option Addr) (ca cb n m : Nat) (left : Nat) (w : World) (hl : left ≤ 1099511627776) (hn : n ≤ maxLen) (hm : m ≤ maxLen) :
    Calls Tryd.prog 19 #[heV a n ca b m cb, .int .i64 left] w fun e w' => ∃ r : Int, e = .returned (.int .i64 r) ∧ Below w.heap.size w w' ∧ r ≤ left ∧ (0 ≤ r → (n : Int) + m + r = left) := by
  go_enter Tryd.func19, Tryd.ntmps19
  go_wp2_with fail
  obtain ⟨W0, hW0, hb0, hs0, hA0⟩ := one_box2 w (.slice a n ca) (.slice b m cb) 42
  rw [hW0]
  clear hW0
  obtain ⟨c0, c1⟩ := hA0
  refine (szInts a ca n left _ hl hn).mono ?_
  rintro e w1 ⟨r, rfl, rfl, hr, hok⟩
  by_cases hneg : r < 0
  · go_wp2
    go_ret
    exact ⟨-1, rfl, hb0, by omega, fun h => by omega⟩
  · obtain ⟨r', rfl⟩ : ∃ r' : Nat, r = (r' : Int) := ⟨r.toNat, by omega⟩
    have Hok := Lib.hid (hok (by omega))
    clear hok
    go_wp2_with fail
    refine (szInts b cb m r' _ (by omega) hm).mono ?_
    rintro e w1 ⟨r2, rfl, rfl, hr2, hok2⟩
    have Hok2 := Lib.hid hok2
    clear hok2
    by_cases hneg2 : r2 < 0
    · go_wp2
      go_ret
      exact ⟨-1, rfl, hb0, by omega, fun h => by omega⟩
    · go_wp2
      go_ret
      have h1 := Hok.out
      exact ⟨r2, rfl, hb0, by omega, fun h => by have h2 := Hok2.out h; omega⟩

/-- A copy of a heap: two new rows. -/
def CopyHeap (vs zs : List Int) (w : World) (e : Ending) (w' : World) : Prop :=
  ∃ a b, e = .returned (heV a vs.length vs.length b zs.length zs.length) ∧ HeapIn w.heap.size w'.heap.size w' a vs.length b zs.length (intVals vs) (intVals zs) ∧ Below w.heap.size w w'
set_option maxHeartbeats 800000 in
theorem toHeap (a b : Option Addr) (ca cb : Nat) (vs zs : List Int) (w : World) (hn : vs.length ≤ 1099511627776) (hm : zs.length ≤ 1099511627776) (h : HeapAt w a b vs zs) :
    Calls Tryd.prog 22 #[heV a vs.length ca b zs.length cb] w (CopyHeap vs zs w) := by
  have key : ∀ W, Below w.heap.size w W → HeapAt W a b vs zs := fun W hb => h.below hb (Nat.le_refl _)
  go_enter Tryd.func22, Tryd.ntmps22
  go_wp2_with fail
  refine (toInts a ca vs _ hn (key _ ?_).v).mono ?_
  · repeat (first | exact Below.refl _ _ | refine Below.alloc ?_ (by simp <;> omega) _ | refine Below.setCell ?_ (by simp <;> omega) _)
  rintro e w1 ⟨rfl, ho1, hb1⟩
  obtain ⟨hc, hf⟩ := cellsB hb1
  have hz := hb1.size
  simp at hz
  have hB1 : Below w.heap.size w w1 := by
    refine Below.trans ?_ (hb1.mono (by simp <;> omega))
    repeat (first | with_reducible exact Below.refl _ _ | with_reducible refine Below.alloc ?_ (by simp <;> omega) _ | with_reducible refine Below.setCell ?_ (by simp <;> omega) _)
  have Ho1 := Lib.hid ho1
  clear ho1
  go_wp2_with fail
  refine (toInts b cb zs _ hm (key _ ?_).z).mono ?_
  · repeat (first | with_reducible exact hB1 | with_reducible refine Below.alloc ?_ (by simp <;> omega) _ | with_reducible refine Below.setCell ?_ (by simp <;> omega) _)
  rintro e w2 ⟨rfl, ho2, hb2⟩
  obtain ⟨hc2, hf2⟩ := cellsB hb2
  have hz2 := hb2.size
  simp at hz2
  have d0 : w2.cell? ⟨w.heap.size + 1 + 1, 0, none⟩ = some (.slice (some ⟨w.heap.size + 1 + 1 + 1, 0, none⟩) vs.length vs.length) := by
    rw [hc2 _ _ (by simp; omega)]
    simp [hc, go_sem]
  have d1 : w2.cell? ⟨w.heap.size + 1 + 1, 1, none⟩ = some (.slice none 0 0) := by
    rw [hc2 _ _ (by simp; omega)]
    simp [hc, go_sem]
  have d3 : w2.frozen? ⟨w.heap.size + 1 + 1, 1, none⟩ = false := by
    rw [hf2 _ _ (by simp; omega)]
    simp [hf, go_sem]
  have r0 : w2.cell? ⟨w.heap.size + 1, 0, none⟩ = some (.slice none 0 0) := by
    rw [hc2 _ _ (by simp; omega)]
    simp [hc, go_sem]
  have r1 : w2.cell? ⟨w.heap.size + 1, 1, none⟩ = some (.slice none 0 0) := by
    rw [hc2 _ _ (by simp; omega)]
    simp [hc, go_sem]
  have r3 : ∀ o, w2.frozen? ⟨w.heap.size + 1, o, none⟩ = false := by
    intro o
    rw [hf2 _ _ (by simp; omega)]
    simp [hf, go_sem]
  have hB2 : Below w.heap.size w w2 := by
    refine Below.trans ?_ (hb2.mono (by simp <;> omega))
    repeat (first | with_reducible exact hB1 | with_reducible refine Below.setCell ?_ (by simp <;> omega) _)
  have hk2 : w2.ownsRow (w.heap.size + 1 + 1 + 1) 3 1 (.slice (some ⟨w.heap.size + 1 + 1 + 1, 0, none⟩) vs.length vs.length) vs.length (intVals vs) := by
    have h0 : w1.ownsRow (w.heap.size + 1 + 1 + 1) 3 1 (.slice (some ⟨w.heap.size + 1 + 1 + 1, 0, none⟩) vs.length vs.length) vs.length (intVals vs) := by simpa using Ho1.out
    have h1 := ownsRow_setCell_below h0 (a := ⟨w.heap.size + 1 + 1, 0, none⟩) (Nat.lt_succ_self _) (.slice (some ⟨w.heap.size + 1 + 1 + 1, 0, none⟩) vs.length vs.length)
    exact own_keeps h1 hb2
  have hE2 := ho2
  simp only [World.size_setCell] at hE2
  have hlt : w.heap.size + 1 + 1 + 1 < w1.heap.size := by
    have := Ho1.out.lt _ rfl
    simpa using this.2
  have HE2 := Lib.hid hE2
  have HK2 := Lib.hid hk2
  clear hE2 hk2 ho2 Ho1 hc hc2 hf hf2 hz hz2
  go_wp2
  refine bodyPost_ret (v := heV (some ⟨w.heap.size + 1 + 1 + 1, 0, none⟩) vs.length vs.length (some ⟨w1.heap.size, 0, none⟩) zs.length zs.length) (by simp [results, Tryd.results22, go_sem, r0, r1]) rfl ⟨_, _, rfl, ?_, ?_⟩
  · have e1 := intVals_length vs
    have e2 := intVals_length zs
    refine ⟨?_, ?_, ?_⟩
    · rw [e1]
      refine OwnIn.mono (OwnIn.of (lo := w.heap.size + 1 + 1 + 1) ?_) (by omega) (Nat.le_refl _) (Nat.le_refl _)
      repeat (first | with_reducible exact HK2.out | with_reducible refine ownsRow_setCell_below ?_ (by simp <;> omega) _)
    · rw [e2]
      refine OwnIn.mono (OwnIn.of (lo := w1.heap.size) ?_) (by omega) (Nat.le_refl _) (Nat.le_refl _)
      repeat (first | with_reducible exact HE2.out | with_reducible refine ownsRow_setCell_below ?_ (by simp <;> omega) _)
    · intro j h1 h2
      simp only [Value.ownBlock, Option.some.injEq] at h1 h2
      omega
  · repeat (first | with_reducible exact hB2 | with_reducible refine Below.setCell ?_ (by simp <;> omega) _)

/-- Two heaps that hold the same compare as equal. -/
theorem eqHeaps (a b c d : Option Addr) (ca cb cc cd : Nat) (vs zs : List Int) (w : World) (hn : vs.length ≤ maxLen) (hm : zs.length ≤ maxLen) (h : HeapAt w a b vs zs) (h' : HeapAt w c d vs zs) :
    Calls Tryd.prog 23 #[heV a vs.length ca b zs.length cb, heV c vs.length cc d zs.length cd] w (GaveX (.bool true) w) := by
  have key : ∀ W, Below w.heap.size w W → HeapAt W a b vs zs ∧ HeapAt W c d vs zs := fun W hb => ⟨h.below hb (Nat.le_refl _), h'.below hb (Nat.le_refl _)⟩
  go_enter Tryd.func23, Tryd.ntmps23
  go_wp2_with fail
  obtain ⟨W0, hW0, hb0, hs0, ⟨c0, c1⟩, ⟨c2, c3⟩⟩ := two_box2 w (.slice a vs.length ca) (.slice b zs.length cb) (.slice c vs.length cc) (.slice d zs.length cd) 29 29
  rw [hW0]
  clear hW0
  refine (eqInts a c ca cc vs _ hn (key _ hb0).1.v (key _ hb0).2.v).mono ?_
  rintro e w1 ⟨d1, rfl, rfl⟩
  have hB1 : Below w.heap.size w (W0.drewN d1) := below_draws hb0 _
  go_wp2_with fail
  refine (eqInts b d cb cd zs _ hm (key _ hB1).1.z (key _ hB1).2.z).mono ?_
  rintro e w2 ⟨d2, rfl, rfl⟩
  go_wp2
  go_ret
  exact ⟨rfl, below_draws hb0 _⟩

/-- Marks laid into a heap. -/
def MarkedHeap (lo hi k n m : Nat) (a b : Option Addr) (ca cb : Nat) (w : World) (e : Ending) (w' : World) : Prop :=
  e = .returned (.int .i64 ((k + n + m : Nat) : Int)) ∧ HeapIn lo hi w' a ca b cb (intVals (numsFrom k n)) (intVals (numsFrom (k + n) m)) ∧ Turn lo hi w w'
theorem markHeap (lo hi k n m : Nat) (a b : Option Addr) (ca cb : Nat) (xs ys : List Value) (w : World) (hxl : xs.length = n) (hyl : ys.length = m) (hn : n ≤ 54975581388) (hm : m ≤ 54975581388) (hk : k ≤ 54975581388) (h : HeapIn lo hi w a ca b cb xs ys) :
    Calls Tryd.prog 26 #[heV a n ca b m cb, .int .i64 k] w (MarkedHeap lo hi k n m a b ca cb w) := by
  subst hxl hyl
  have hhi := h.v.1
  go_enter Tryd.func26, Tryd.ntmps26
  go_wp2_with fail
  obtain ⟨W0, hW0, hb0, hs0, hA0⟩ := one_box2 w (.slice a xs.length ca) (.slice b ys.length cb) 29
  rw [hW0]
  clear hW0
  have h0 := h.below hb0
  refine (markInts lo k xs.length a ca xs _ (by omega) (by omega) h0.v.2.1).mono ?_
  rintro e w1 ⟨rfl, ho1, hg1⟩
  have t1 := h0.v.grows hg1
  have hA1 := hA0.turn (g := w.heap.size) hs0 t1 (.inr hhi)
  have hz1 : w1.ownsRow lo 3 1 (.slice b ys.length cb) ys.length ys := own_other h0.z.2.1 hg1 fun k hk e => h.apart k e.symm hk
  have T1 : Turn lo hi w w1 := (Turn.of_below hb0).trans t1
  obtain ⟨c0, c1⟩ := hA1
  have hap := h.apart
  have hlt := h.z.2.2
  have hlv := h.v.2.2
  clear hA0 h
  go_wp2_with fail
  have ek : (k : Int) + (xs.length : Int) = ((k + xs.length : Nat) : Int) := by omega
  rw [ek]
  refine (markInts lo (k + xs.length) ys.length b cb ys _ (by omega) (by omega) hz1).mono ?_
  rintro e w2 ⟨rfl, ho2, hg2⟩
  have T2 : Turn lo hi w w2 := T1.trans (Turn.of_grown hg2 fun k hk => ⟨(hz1.lt k hk).1, hlt k hk⟩)
  have ho1' := own_other ho1 hg2 fun k hk e => hap k hk e.symm
  clear ek
  go_wp2
  go_ret
  have e1 : (intVals (numsFrom k xs.length)).length = xs.length := by rw [intVals_length, numsFrom_length]
  have e2 : (intVals (numsFrom (k + xs.length) ys.length)).length = ys.length := by rw [intVals_length, numsFrom_length]
  refine ⟨rfl, ⟨?_, ?_, ?_⟩, T2⟩
  · rw [e1]
    exact ⟨Nat.le_trans hhi T2.size, ho1', hlv⟩
  · rw [e2]
    exact ⟨Nat.le_trans hhi T2.size, ho2, hlt⟩
  · rw [e1, e2]
    exact hap

theorem HeapIn.marks {lo hi k n m : Nat} {W : World} {a b : Option Addr} {ca cb : Nat} (h : HeapIn lo hi W a ca b cb (intVals (numsFrom k n)) (intVals (numsFrom (k + n) m))) : HeapAt W a b (numsFrom k n) (numsFrom (k + n) m) := h.rows
/-- All marks of a heap are there. -/
theorem heldHeap (k n m : Nat) (a b : Option Addr) (ca cb : Nat) (w : World) (hn : n ≤ 54975581388) (hm : m ≤ 54975581388) (hk : k ≤ 54975581388) (h : HeapAt w a b (numsFrom k n) (numsFrom (k + n) m)) :
    Calls Tryd.prog 27 #[heV a n ca b m cb, .int .i64 k] w (GaveX (.int .i64 ((k + n + m : Nat) : Int)) w) := by
  go_enter Tryd.func27, Tryd.ntmps27
  go_wp2_with fail
  obtain ⟨W0, hW0, hb0, hs0, ⟨c0, c1⟩⟩ := one_box2 w (.slice a n ca) (.slice b m cb) 29
  rw [hW0]
  clear hW0
  have h0 := h.below hb0 (Nat.le_refl _)
  refine (heldInts k n a ca _ (by omega) (by omega) h0.v).mono ?_
  rintro e w1 ⟨rfl, rfl⟩
  have q0 : ¬ ((k + n : Nat) : Int) < 0 := by omega
  go_wp2_with fail
  refine (heldInts (k + n) m b cb _ (by omega) (by omega) h0.z).mono ?_
  rintro e w2 ⟨rfl, rfl⟩
  have q1 : ¬ ((k + n + m : Nat) : Int) < 0 := by omega
  go_wp2
  go_ret
  exact ⟨rfl, hb0⟩

/-- A row of numbers, compared, marked, looked at: in the words of intervals. -/
theorem eqRow (a b : Option Addr) (ca cb : Nat) (ns : List Int) (w : World) (hn : ns.length ≤ maxLen) (ha : Row w w.heap.size a (intVals ns)) (hb : Row w w.heap.size b (intVals ns)) :
    Calls Tryd.prog 60 #[.slice a ns.length ca, .slice b ns.length cb] w (GaveX (.bool true) w) :=
  (eqInts a b ca cb ns w hn ha hb).mono fun _ _ ⟨n, he, hw⟩ => ⟨he, hw ▸ below_draws (Below.refl _ _) n⟩
theorem markRow (lo hi k n : Nat) (a : Option Addr) (ca : Nat) (xs : List Value) (w : World) (hn : n ≤ 54975581388) (hk : k ≤ 54975581388) (h : OwnIn lo hi w 3 1 (.slice a n ca) n xs) :
    Calls Tryd.prog 62 #[.slice a n ca, .int .i64 k] w fun e w' => e = .returned (.int .i64 ((k + n : Nat) : Int)) ∧ OwnIn lo hi w' 3 1 (.slice a n ca) n (intVals (numsFrom k n)) ∧ Turn lo hi w w' :=
  (markInts lo k n a ca xs w (by omega) (by omega) h.2.1).mono fun _ _ ⟨he, ho, hg⟩ => ⟨he, h.again (Nat.le_trans h.1 hg.size) ho, h.grows hg⟩
theorem heldRow (k n : Nat) (a : Option Addr) (ca : Nat) (w : World) (hn : n ≤ 54975581388) (hk : k ≤ 54975581388) (h : Row w w.heap.size a (intVals (numsFrom k n))) :
    Calls Tryd.prog 63 #[.slice a n ca, .int .i64 k] w (GaveX (.int .i64 ((k + n : Nat) : Int)) w) :=
  (heldInts k n a ca w (by omega) (by omega) h).mono fun _ _ ⟨he, hw⟩ => ⟨he, hw ▸ Below.refl _ _⟩
end Go.Proofs.YtpmmjaceehlpiaaDoor
/-
  Cells that are met by following: what a heap is, in plain words: chains, the order in which cells are met, new numbers. Nothing here knows of the program.
-/
namespace Go.Proofs.YtpmmjaceehlpiaaDoor
open Go Go.RowKit

/-- Is the number a cell? -/
def isC (zs : List Int) (c : Int) : Bool := decide (0 ≤ c) && decide (c < (zs.length : Int))
def nextC (zs : List Int) (c : Int) : Int := zs.getD c.toNat (-1)
theorem isC_iff {zs : List Int} {c : Int} : isC zs c = true ↔ 0 ≤ c ∧ c < (zs.length : Int) := by simp [isC]
theorem nextC_at {zs : List Int} {k : Nat} (h : k < zs.length) : nextC zs (k : Int) = zs[k] := by simp [nextC, h]
theorem isC_nat {zs : List Int} {c : Int} (h : isC zs c = true) : ∃ k : Nat, c = (k : Int) ∧ k < zs.length := by
  have := isC_iff.1 h
  exact ⟨c.toNat, by omega, by omega⟩
theorem isC_of {zs : List Int} {k : Nat} (h : k < zs.length) : isC zs (k : Int) = true := isC_iff.2 ⟨by omega, by omega⟩
theorem isC_minus (zs : List Int) : isC zs (-1) = false := by simp [isC]

/-- The cells met from c on, one after the other, n at most. -/
def chain (zs : List Int) : Nat → Int → List Int
  | 0, _ => []
  | n + 1, c => if isC zs c = true then c :: chain zs n (nextC zs c) else []
/-- Does the way from c end at what is neither a cell nor null? -/
def badEnd (zs : List Int) : Nat → Int → Bool
  | 0, c => decide (c ≠ -1) && !isC zs c
  | n + 1, c => if isC zs c = true then badEnd zs n (nextC zs c) else decide (c ≠ -1)
/-- Laid behind what is there, each once. -/
def addAll : List Int → List Int → List Int
  | o, [] => o
  | o, c :: cs => addAll (if c ∈ o then o else o ++ [c]) cs

theorem addAll_append (o a b : List Int) : addAll o (a ++ b) = addAll (addAll o a) b := by
  induction a generalizing o with
  | nil => rfl
  | cons x xs ih => simp only [List.cons_append, addAll]; exact ih _
theorem addAll_mem {x : Int} : ∀ {cs o : List Int}, x ∈ addAll o cs ↔ x ∈ o ∨ x ∈ cs
  | [], o => by simp [addAll]
  | c :: cs, o => by
    simp only [addAll]
    rw [addAll_mem]
    by_cases h : c ∈ o
    · simp only [h, if_true, List.mem_cons]
      constructor
      · rintro (h1 | h1)
        · exact .inl h1
        · exact .inr (.inr h1)
      · rintro (h1 | rfl | h1)
        · exact .inl h1
        · exact .inl h
        · exact .inr h1
    · simp [h, or_assoc]
theorem addAll_sub : ∀ {cs o : List Int}, (∀ x ∈ cs, x ∈ o) → addAll o cs = o
  | [], _, _ => rfl
  | c :: cs, o, h => by
    simp only [addAll, h c (by simp), if_true]
    exact addAll_sub fun x hx => h x (by simp [hx])
theorem nodup_snoc {o : List Int} {c : Int} (h : o.Nodup) (hno : c ∉ o) : (o ++ [c]).Nodup := by
  rw [List.nodup_append]
  exact ⟨h, by simp, fun a ha b hb => by simp at hb; subst hb; exact fun e => hno (e ▸ ha)⟩
theorem addAll_nodup : ∀ {cs o : List Int}, o.Nodup → (addAll o cs).Nodup
  | [], _, h => h
  | c :: cs, o, h => by
    simp only [addAll]
    refine addAll_nodup ?_
    split
    · exact h
    · rename_i hc
      exact nodup_snoc h hc
/-- Laying a list behind, after having laid it behind nothing: the same. -/
theorem addAll_addAll (o : List Int) : ∀ (cs a : List Int), addAll o (addAll a cs) = addAll (addAll o a) cs
  | [], a => rfl
  | c :: cs, a => by
    simp only [addAll]
    rw [addAll_addAll o cs]
    congr 1
    by_cases h : c ∈ a
    · rw [if_pos h, if_pos (addAll_mem.2 (.inr h))]
    · rw [if_neg h, addAll_append]
      rfl
theorem addAll_map {f : Int → Int} : ∀ {cs o : List Int}, (∀ x y, (x ∈ o ∨ x ∈ cs) → (y ∈ o ∨ y ∈ cs) → f x = f y → x = y) → addAll (o.map f) (cs.map f) = (addAll o cs).map f
  | [], _, _ => rfl
  | c :: cs, o, h => by
    simp only [List.map_cons, addAll]
    by_cases hc : c ∈ o
    · rw [if_pos hc, if_pos (List.mem_map.2 ⟨c, hc, rfl⟩)]
      exact addAll_map fun x y hx hy => h x y (hx.imp id (by simp +contextual)) (hy.imp id (by simp +contextual))
    · have hno : f c ∉ o.map f := fun hm => by
        obtain ⟨y, hy, e⟩ := List.mem_map.1 hm
        exact hc (h y c (.inl hy) (.inr (by simp)) e ▸ hy)
      rw [if_neg hc, if_neg hno]
      have : o.map f ++ [f c] = (o ++ [c]).map f := by simp
      rw [this]
      refine addAll_map fun x y hx hy => h x y ?_ ?_
      · rcases hx with hx | hx
        · rcases List.mem_append.1 hx with hx | hx
          · exact .inl hx
          · exact .inr (by simp at hx; simp [hx])
        · exact .inr (by simp [hx])
      · rcases hy with hx | hx
        · rcases List.mem_append.1 hx with hx | hx
          · exact .inl hx
          · exact .inr (by simp at hx; simp [hx])
        · exact .inr (by simp [hx])

theorem chain_cells {zs : List Int} : ∀ {n : Nat} {c x : Int}, x ∈ chain zs n c → isC zs x = true
  | 0, _, _, h => by simp [chain] at h
  | n + 1, c, x, h => by
    simp only [chain] at h
    split at h
    · rename_i hc
      rcases List.mem_cons.1 h with rfl | h
      · exact hc
      · exact chain_cells h
    · simp at h
/-- What holds at the first cell and goes on from cell to next cell holds all along. -/
theorem chain_all {zs : List Int} {Q : Int → Prop} (hq : ∀ x, isC zs x = true → Q x → isC zs (nextC zs x) = true → Q (nextC zs x)) : ∀ {n : Nat} {c x : Int}, (isC zs c = true → Q c) → x ∈ chain zs n c → Q x
  | 0, _, _, _, h => by simp [chain] at h
  | n + 1, c, x, h0, h => by
    simp only [chain] at h
    split at h
    · rename_i hc
      rcases List.mem_cons.1 h with rfl | h
      · exact h0 hc
      · exact chain_all hq (fun hn => hq c hc (h0 hc) hn) h
    · simp at h

theorem nodup_sub_length : ∀ {a b : List Int}, a.Nodup → (∀ x ∈ a, x ∈ b) → a.length ≤ b.length
  | [], _, _, _ => by simp
  | x :: a, b, hn, h => by
    have hx : x ∈ b := h x (by simp)
    have h1 := nodup_sub_length (a := a) (b := b.erase x) (List.nodup_cons.1 hn).2 (fun y hy => by
      have hne : y ≠ x := fun e => (List.nodup_cons.1 hn).1 (e ▸ hy)
      exact (List.mem_erase_of_ne hne).2 (h y (by simp [hy])))
    rw [List.length_erase_of_mem hx] at h1
    have := List.length_pos_of_mem hx
    simp only [List.length_cons]
    omega
/-- The numbers below n. -/
def upTo (n : Nat) : List Int := (List.range n).map fun (i : Nat) => (i : Int)
theorem upTo_length (n : Nat) : (upTo n).length = n := by simp [upTo]
theorem upTo_at {n k : Nat} (_ : k < n) (h' : k < (upTo n).length) : (upTo n)[k] = (k : Int) := by simp [upTo]
theorem upTo_mem {n : Nat} {x : Int} : x ∈ upTo n ↔ 0 ≤ x ∧ x < (n : Int) := by
  simp only [upTo, List.mem_map, List.mem_range]
  constructor
  · rintro ⟨k, hk, rfl⟩
    omega
  · intro h
    exact ⟨x.toNat, by omega, by omega⟩
theorem upTo_nodup (n : Nat) : (upTo n).Nodup := by
  unfold upTo
  rw [List.nodup_iff_pairwise_ne, List.pairwise_map]
  exact (List.nodup_iff_pairwise_ne.1 List.nodup_range).imp fun h e => h (by omega)
theorem nodup_cells {zs : List Int} {o : List Int} (hn : o.Nodup) (hc : ∀ x ∈ o, isC zs x = true) : o.length ≤ zs.length := by
  have := nodup_sub_length (b := upTo zs.length) hn fun x hx => upTo_mem.2 (isC_iff.1 (hc x hx))
  rwa [upTo_length] at this
theorem nodup_room {S o : List Int} {c : Int} (hn : o.Nodup) (hc : ∀ x ∈ o, x ∈ S) (h : c ∈ S) (hno : c ∉ o) : o.length < S.length := by
  have := nodup_sub_length (a := c :: o) (b := S) (List.nodup_cons.2 ⟨hno, hn⟩) (fun x hx => by rcases List.mem_cons.1 hx with rfl | hx; exact h; exact hc x hx)
  simpa [Nat.succ_le_iff] using this

/-- From each cell on, what follows is there too. -/
def closedO (zs o : List Int) : Prop := ∀ x ∈ o, isC zs (nextC zs x) = true → nextC zs x ∈ o
/-- .. or is c, which is looked at next. -/
def closedTo (zs o : List Int) (c : Int) : Prop := ∀ x ∈ o, isC zs (nextC zs x) = true → nextC zs x ∈ o ∨ nextC zs x = c
structure OrdOk (zs o : List Int) : Prop where
  nodup : o.Nodup
  cells : ∀ x ∈ o, isC zs x = true
theorem OrdOk.nil_ {zs : List Int} : OrdOk zs [] := ⟨by simp, by simp⟩
theorem OrdOk.len {zs o : List Int} (h : OrdOk zs o) : o.length ≤ zs.length := nodup_cells h.nodup h.cells
theorem OrdOk.snoc {zs o : List Int} {c : Int} (h : OrdOk zs o) (hc : isC zs c = true) (hno : c ∉ o) : OrdOk zs (o ++ [c]) := by
  refine ⟨nodup_snoc h.nodup hno, fun x hx => ?_⟩
  rcases List.mem_append.1 hx with hx | hx
  · exact h.cells x hx
  · simp at hx; subst hx; exact hc
theorem OrdOk.addAll {zs o cs : List Int} (h : OrdOk zs o) (hc : ∀ x ∈ cs, isC zs x = true) : OrdOk zs (addAll o cs) :=
  ⟨addAll_nodup h.nodup, fun x hx => by rcases addAll_mem.1 hx with hx | hx; exact h.cells x hx; exact hc x hx⟩
theorem OrdOk.room {zs o : List Int} {c : Int} (h : OrdOk zs o) (hc : isC zs c = true) (hno : c ∉ o) : o.length < zs.length := by
  have := nodup_room (S := upTo zs.length) h.nodup (fun x hx => upTo_mem.2 (isC_iff.1 (h.cells x hx))) (upTo_mem.2 (isC_iff.1 hc)) hno
  rwa [upTo_length] at this

theorem closedO.to {zs o : List Int} {c : Int} (h : closedO zs o) : closedTo zs o c := fun x hx hn => .inl (h x hx hn)
theorem closedTo_here {zs o : List Int} {c : Int} (h : closedTo zs o c) (hc : c ∈ o) : closedO zs o := fun x hx hn => by
  rcases h x hx hn with h | h
  · exact h
  · rw [h]; exact hc
theorem closedTo_step {zs o : List Int} {c : Int} (h : closedTo zs o c) : closedTo zs (o ++ [c]) (nextC zs c) := fun x hx hn => by
  rcases List.mem_append.1 hx with hx | hx
  · rcases h x hx hn with h | h
    · exact .inl (by simp [h])
    · exact .inl (by simp [h])
  · simp at hx
    subst hx
    exact .inr rfl
theorem closedTo_stop {zs o : List Int} {c : Int} (h : closedTo zs o c) (hc : isC zs c = false) : closedO zs o := fun x hx hn => by
  rcases h x hx hn with h | h
  · exact h
  · rw [h, hc] at hn; cases hn

theorem chain_in {zs o : List Int} (h : closedO zs o) {n : Nat} {c x : Int} (hc : isC zs c = true → c ∈ o) (hx : x ∈ chain zs n c) : x ∈ o := chain_all (Q := fun x => x ∈ o) (fun y _ hy hn => h y hy hn) hc hx
theorem badEnd_no {zs : List Int} : ∀ {n : Nat} {c : Int}, isC zs c = false → badEnd zs n c = decide (c ≠ -1)
  | 0, c, h => by simp [badEnd, h]
  | n + 1, c, h => by simp [badEnd, h]
theorem chain_no {zs : List Int} : ∀ {n : Nat} {c : Int}, isC zs c = false → chain zs n c = []
  | 0, c, h => rfl
  | n + 1, c, h => by simp [chain, h]

/-- How many steps are allowed makes no odds, once they are enough. -/
theorem fuel_free {zs S : List Int} (hS : closedO zs S) : ∀ {n m : Nat} {o : List Int} {c : Int}, o.Nodup → (∀ x ∈ o, x ∈ S) → closedTo zs o c → (isC zs c = true → c ∈ S) → S.length ≤ o.length + n → S.length ≤ o.length + m → addAll o (chain zs n c) = addAll o (chain zs m c) := by
  intro n
  induction n with
  | zero =>
    intro m o c hn ho ht hc h1 _
    by_cases hi : isC zs c = true
    · have hco : c ∈ o := Classical.byContradiction fun hno => by have := nodup_room hn ho (hc hi) hno; omega
      have hcl := closedTo_here ht hco
      exact (addAll_sub fun x hx => chain_in hcl (fun _ => hco) hx).symm
    · simp only [Bool.not_eq_true] at hi
      rw [chain_no hi, chain_no hi]
  | succ n ih =>
    intro m o c hn ho ht hc h1 h2
    by_cases hi : isC zs c = true
    · by_cases hco : c ∈ o
      · have hcl := closedTo_here ht hco
        rw [addAll_sub fun x hx => chain_in hcl (fun _ => hco) hx, addAll_sub fun x hx => chain_in hcl (fun _ => hco) hx]
      · have hr := nodup_room hn ho (hc hi) hco
        obtain ⟨m, rfl⟩ : ∃ k, m = k + 1 := ⟨m - 1, by omega⟩
        simp only [chain, hi, if_true, addAll, hco, if_false]
        refine ih (nodup_snoc hn hco) (fun x hx => ?_) (closedTo_step ht) (fun hx => hS c (hc hi) hx) (by simp; omega) (by simp; omega)
        rcases List.mem_append.1 hx with hx | hx
        · exact ho x hx
        · simp at hx; subst hx; exact hc hi
    · simp only [Bool.not_eq_true] at hi
      rw [chain_no hi, chain_no hi]

/-- Elements that are cells or null. -/
def goodB (zs l : List Int) : Bool := l.all fun x => decide (x = -1) || isC zs x
theorem goodB_at {zs l : List Int} (h : goodB zs l = true) {x : Int} (hx : x ∈ l) : x = -1 ∨ isC zs x = true := by
  have := List.all_eq_true.1 h x hx
  simpa using this
theorem goodB_bad {zs l : List Int} {k : Nat} (h : k < l.length) (h1 : l[k] ≠ -1) (h2 : isC zs l[k] = false) : goodB zs l = false := by
  rw [goodB, List.all_eq_false]
  exact ⟨l[k], List.getElem_mem h, by simp [h1, h2]⟩
theorem goodB_next {zs l : List Int} {k : Nat} (h : k < l.length) (ha : goodB zs (l.take k) = true) (hk : l[k] = -1 ∨ isC zs l[k] = true) : goodB zs (l.take (k + 1)) = true := by
  rw [goodB, take_next l k h, List.all_append]
  rw [goodB] at ha
  rw [ha]
  rcases hk with hk | hk <;> simp [hk]
theorem nextC_good {zs : List Int} (h : goodB zs zs = true) {c : Int} (hc : isC zs c = true) : nextC zs c = -1 ∨ isC zs (nextC zs c) = true := by
  obtain ⟨k, rfl, hk⟩ := isC_nat hc
  rw [nextC_at hk]
  exact goodB_at h (List.getElem_mem hk)
theorem badEnd_good {zs : List Int} (h : goodB zs zs = true) : ∀ {n : Nat} {c : Int}, c = -1 ∨ isC zs c = true → badEnd zs n c = false
  | 0, c, hc => by
    rcases hc with rfl | hc
    · simp [badEnd]
    · simp [badEnd, hc]
  | n + 1, c, hc => by
    simp only [badEnd]
    split
    · rename_i hi
      exact badEnd_good h (nextC_good h hi)
    · rename_i hi
      rcases hc with rfl | hc
      · simp
      · exact absurd hc hi
/-- A cell whose next one is wrong, met on the way: the way ends badly. -/
theorem badEnd_met {zs : List Int} {x : Int} (h1 : nextC zs x ≠ -1) (h2 : isC zs (nextC zs x) = false) : ∀ {n : Nat} {c : Int}, x ∈ chain zs n c → badEnd zs n c = true
  | 0, _, h => by simp [chain] at h
  | n + 1, c, h => by
    simp only [chain] at h
    split at h
    · rename_i hc
      simp only [badEnd, hc, if_true]
      rcases List.mem_cons.1 h with rfl | h
      · rw [badEnd_no h2]; simpa using h1
      · exact badEnd_met h1 h2 h
    · simp at h

/-- The walk from a cell: what is there, and where it stands; the last words stay the same. -/
structure Going (zs o0 : List Int) (c0 : Int) (o : List Int) (c : Int) (n : Nat) : Prop where
  ok : OrdOk zs o
  to : closedTo zs o c
  room : zs.length ≤ o.length + n
  all : addAll o (chain zs n c) = addAll o0 (chain zs zs.length c0)
  ring : o0 = [] → ∀ x ∈ o, nextC zs x ∈ o ∨ nextC zs x = c
  bad : badEnd zs n c = badEnd zs zs.length c0
theorem Going.start {zs o : List Int} {c : Int} (h : OrdOk zs o) (hc : closedO zs o) : Going zs o c o c zs.length := ⟨h, hc.to, by omega, rfl, (fun e x hx => by subst e; simp at hx), rfl⟩
theorem Going.step {zs o0 o : List Int} {c0 c : Int} {n : Nat} (h : Going zs o0 c0 o c n) (hc : isC zs c = true) (hno : c ∉ o) : ∃ m, n = m + 1 ∧ Going zs o0 c0 (o ++ [c]) (nextC zs c) m := by
  have hr := h.ok.room hc hno
  have := h.room
  obtain ⟨m, rfl⟩ : ∃ m, n = m + 1 := ⟨n - 1, by omega⟩
  refine ⟨m, rfl, h.ok.snoc hc hno, closedTo_step h.to, by simp; omega, ?_, fun e x hx => ?_, ?_⟩
  · rw [← h.all]
    simp [chain, hc, addAll, hno]
  · rcases List.mem_append.1 hx with hx | hx
    · rcases h.ring e x hx with h | h
      · exact .inl (by simp [h])
      · exact .inl (by simp [h])
    · simp at hx
      subst hx
      exact .inr rfl
  · rw [← h.bad]
    simp [badEnd, hc]
theorem ring_good {zs o : List Int} (ho : ∀ x ∈ o, isC zs x = true) (h : ∀ x ∈ o, nextC zs x ∈ o) : ∀ {n : Nat} {c : Int}, c ∈ o → badEnd zs n c = false
  | 0, c, hc => by simp [badEnd, ho c hc]
  | n + 1, c, hc => by
    simp only [badEnd, ho c hc, if_true]
    exact ring_good ho h (h c hc)
theorem Going.stop {zs o0 o : List Int} {c0 c : Int} {n : Nat} (h : Going zs o0 c0 o c n) (hs : isC zs c = false ∨ c ∈ o) :
    addAll o0 (chain zs zs.length c0) = o ∧ closedO zs o ∧ (o0 = [] → (decide (c ≠ -1) && !isC zs c) = badEnd zs zs.length c0) := by
  rcases hs with hs | hs
  · exact ⟨by rw [← h.all, chain_no hs]; rfl, closedTo_stop h.to hs, fun _ => by rw [← h.bad, badEnd_no hs, hs]; simp⟩
  · have hcl := closedTo_here h.to hs
    refine ⟨by rw [← h.all, addAll_sub fun x hx => chain_in hcl (fun _ => hs) hx], hcl, fun e => ?_⟩
    rw [← h.bad, h.ok.cells c hs, ring_good h.ok.cells (fun x hx => by rcases h.ring e x hx with h1 | h1; exact h1; rw [h1]; exact hs) hs]
    simp
theorem Going.closed {zs o0 : List Int} {c0 : Int} : ∀ {n : Nat} {o : List Int} {c : Int}, Going zs o0 c0 o c n → closedO zs (addAll o0 (chain zs zs.length c0))
  | n, o, c, h => by
    by_cases hs : isC zs c = false ∨ c ∈ o
    · rw [(h.stop hs).1]
      exact (h.stop hs).2.1
    · simp only [not_or, Bool.not_eq_false] at hs
      obtain ⟨m, rfl, h'⟩ := h.step hs.1 hs.2
      exact h'.closed
  termination_by n => n

/-- The cells that are met from c on; none where the way ends badly. -/
def followed (zs : List Int) (c : Int) : List Int := if badEnd zs zs.length c = true then [] else addAll [] (chain zs zs.length c)
theorem followed_ok (zs : List Int) (c : Int) : OrdOk zs (followed zs c) := by
  unfold followed
  split
  · exact OrdOk.nil_
  · exact OrdOk.nil_.addAll fun x hx => chain_cells hx
/-- The cells in the order in which they are met from the variables on. -/
def orderFrom (zs : List Int) : List Int → List Int → List Int
  | o, [] => o
  | o, v :: vs => orderFrom zs (addAll o (chain zs zs.length v)) vs
def order (vs zs : List Int) : List Int := orderFrom zs [] vs
def orderS (zs : List Int) : List Int → List Int → List Int
  | o, [] => o
  | o, v :: vs => orderS zs (addAll o (followed zs v)) vs

structure OrdEnd (zs o : List Int) : Prop extends OrdOk zs o where
  closed : closedO zs o
theorem OrdEnd.nil_ {zs : List Int} : OrdEnd zs [] := ⟨OrdOk.nil_, fun _ hx => by simp at hx⟩
theorem OrdEnd.next {zs o : List Int} (h : OrdEnd zs o) (c : Int) : OrdEnd zs (addAll o (chain zs zs.length c)) :=
  ⟨h.toOrdOk.addAll fun _ hx => chain_cells hx, (Going.start h.toOrdOk h.closed).closed⟩
theorem orderFrom_end {zs : List Int} : ∀ {vs o : List Int}, OrdEnd zs o → OrdEnd zs (orderFrom zs o vs)
  | [], _, h => h
  | v :: vs, _, h => orderFrom_end (vs := vs) (h.next v)
theorem order_end (vs zs : List Int) : OrdEnd zs (order vs zs) := orderFrom_end OrdEnd.nil_
theorem orderFrom_mono {zs : List Int} {x : Int} : ∀ {vs o : List Int}, x ∈ o → x ∈ orderFrom zs o vs
  | [], _, h => h
  | _ :: vs, _, h => orderFrom_mono (vs := vs) (addAll_mem.2 (.inl h))
theorem chain_here {zs : List Int} {c : Int} (h : isC zs c = true) : c ∈ chain zs zs.length c := by
  obtain ⟨k, rfl, hk⟩ := isC_nat h
  obtain ⟨n, hn⟩ : ∃ n, zs.length = n + 1 := ⟨zs.length - 1, by omega⟩
  rw [hn]
  simp [chain, h]
theorem orderFrom_vars {zs : List Int} {v : Int} (hv : isC zs v = true) : ∀ {vs o : List Int}, v ∈ vs → v ∈ orderFrom zs o vs
  | [], _, h => by simp at h
  | w :: vs, o, h => by
    rcases List.mem_cons.1 h with rfl | h
    · exact orderFrom_mono (vs := vs) (addAll_mem.2 (.inr (chain_here hv)))
    · exact orderFrom_vars hv (vs := vs) h
theorem order_vars {vs zs : List Int} {v : Int} (hv : isC zs v = true) (h : v ∈ vs) : v ∈ order vs zs := orderFrom_vars hv h
/-- What holds of the variables' cells and goes on from cell to next cell holds of all that are met. -/
theorem orderFrom_all {zs : List Int} {Q : Int → Prop} (hq : ∀ x, isC zs x = true → Q x → isC zs (nextC zs x) = true → Q (nextC zs x)) : ∀ {vs o : List Int}, (∀ x ∈ o, Q x) → (∀ v ∈ vs, isC zs v = true → Q v) → ∀ x ∈ orderFrom zs o vs, Q x
  | [], _, ho, _ => ho
  | v :: vs, o, ho, hv => orderFrom_all (vs := vs) hq (fun x hx => by
      rcases addAll_mem.1 hx with hx | hx
      · exact ho x hx
      · exact chain_all hq (fun h => hv v (by simp) h) hx) (fun w hw => hv w (by simp [hw]))
theorem followed_good {zs : List Int} (h : goodB zs zs = true) {c : Int} (hc : c = -1 ∨ isC zs c = true) : followed zs c = addAll [] (chain zs zs.length c) := by
  rw [followed, badEnd_good h hc]
  rfl
theorem addAll_followed {zs : List Int} (h : goodB zs zs = true) (o : List Int) (v : Int) : addAll o (followed zs v) = addAll o (chain zs zs.length v) := by
  by_cases hc : v = -1 ∨ isC zs v = true
  · rw [followed_good h hc, addAll_addAll]
    rfl
  · simp only [not_or, Bool.not_eq_true] at hc
    rw [chain_no hc.2, followed, badEnd_no hc.2]
    simp [hc.1]
theorem orderS_good {zs : List Int} (h : goodB zs zs = true) : ∀ {vs o : List Int}, orderS zs o vs = orderFrom zs o vs
  | [], _ => rfl
  | v :: vs, o => by
    rw [orderS, orderFrom, addAll_followed h]
    exact orderS_good h
theorem orderS_ok {zs : List Int} : ∀ {vs o : List Int}, OrdOk zs o → OrdOk zs (orderS zs o vs)
  | [], _, h => h
  | v :: vs, _, h => orderS_ok (vs := vs) (h.addAll (followed_ok zs v).cells)
theorem orderS_all {zs : List Int} {Q : Int → Prop} (hq : ∀ v, ∀ x ∈ followed zs v, Q x) : ∀ {vs o : List Int}, (∀ x ∈ o, Q x) → ∀ x ∈ orderS zs o vs, Q x
  | [], _, ho => ho
  | v :: vs, o, ho => orderS_all (vs := vs) hq (fun x hx => by
      rcases addAll_mem.1 hx with hx | hx
      · exact ho x hx
      · exact hq v x hx)

/-- Is there a cell that no variable reaches? -/
def leakB (vs zs : List Int) : Bool := decide ((orderS zs [] vs).length < zs.length)
theorem leak_bad {vs zs : List Int} (h : goodB zs zs = false) : leakB vs zs = true := by
  rw [goodB, List.all_eq_false] at h
  obtain ⟨y, hy, hb⟩ := h
  simp at hb
  obtain ⟨k, hk, rfl⟩ := List.getElem_of_mem hy
  have hx : ((k : Int)) ∉ orderS zs [] vs := fun hm => by
    refine orderS_all (Q := fun x => x ≠ (k : Int)) (fun v x hx e => ?_) (by simp) _ hm rfl
    subst e
    unfold followed at hx
    split at hx
    · simp at hx
    · rename_i hbe
      rcases addAll_mem.1 hx with hx | hx
      · simp at hx
      · exact hbe (badEnd_met (by rw [nextC_at hk]; exact hb.1) (by rw [nextC_at hk]; exact hb.2) hx)
  have := (orderS_ok (vs := vs) OrdOk.nil_).room (isC_of hk) hx
  simpa [leakB] using this
theorem leak_good {vs zs : List Int} (h : goodB zs zs = true) : leakB vs zs = decide ((order vs zs).length < zs.length) := by
  rw [leakB, orderS_good h]
  rfl

/-- The new number of a cell. -/
def num (o : List Int) (c : Int) : Int := (posFrom c 0 o).headD (-1)
theorem posFrom_none {n : Int} : ∀ {zs : List Int} {k : Nat}, n ∉ zs → posFrom n k zs = []
  | [], _, _ => rfl
  | z :: zs, k, h => by
    simp only [List.mem_cons, not_or] at h
    rw [posFrom, if_neg (Ne.symm h.1)]
    exact posFrom_none h.2
theorem posFrom_append (n : Int) : ∀ (a b : List Int) (k : Nat), posFrom n k (a ++ b) = posFrom n k a ++ posFrom n (k + a.length) b
  | [], b, k => by simp [posFrom]
  | x :: a, b, k => by
    simp only [List.cons_append, posFrom, List.length_cons]
    rw [posFrom_append n a b (k + 1), show k + 1 + a.length = k + (a.length + 1) by omega]
    split <;> simp
theorem num_not {o : List Int} {c : Int} (h : c ∉ o) : num o c = -1 := by rw [num, posFrom_none h]; rfl
theorem num_snoc_new {o : List Int} {c : Int} (h : c ∉ o) : num (o ++ [c]) c = (o.length : Int) := by
  rw [num, posFrom_append, posFrom_none h]
  simp [posFrom]
theorem num_snoc_old {o : List Int} {c x : Int} (hne : x ≠ c) : num (o ++ [c]) x = num o x := by
  rw [num, posFrom_append]
  have : posFrom x (0 + o.length) [c] = [] := by simp [posFrom, Ne.symm hne]
  rw [this, List.append_nil]
  rfl
theorem posFrom_some {n : Int} : ∀ {zs : List Int} {k : Nat}, n ∈ zs → ∃ (j : Nat) (r : List Int), posFrom n k zs = ((k + j : Nat) : Int) :: r ∧ ∃ h : j < zs.length, zs[j] = n
  | [], _, h => by simp at h
  | z :: zs, k, h => by
    by_cases e : z = n
    · exact ⟨0, _, by rw [posFrom, if_pos e]; rfl, by simp, by simpa using e⟩
    · obtain ⟨j, r, h1, h2, h3⟩ := posFrom_some (zs := zs) (k := k + 1) (by rcases List.mem_cons.1 h with h | h; exact absurd h.symm e; exact h)
      exact ⟨j + 1, r, by rw [posFrom, if_neg e, h1, show k + 1 + j = k + (j + 1) by omega], by simp; omega, by simpa using h3⟩
theorem num_mem {o : List Int} {c : Int} (h : c ∈ o) : ∃ k : Nat, ∃ hk : k < o.length, o[k] = c ∧ num o c = (k : Int) := by
  obtain ⟨j, r, h1, h2, h3⟩ := posFrom_some (k := 0) h
  exact ⟨j, h2, h3, by rw [num, h1]; simp⟩
theorem num_at {o : List Int} (hn : o.Nodup) {k : Nat} (hk : k < o.length) : num o o[k] = (k : Int) := by
  obtain ⟨j, hj, e, h⟩ := num_mem (List.getElem_mem hk)
  rw [h]
  have := (List.getElem_inj hn).1 e
  omega
theorem num_bounds (o : List Int) (c : Int) : -1 ≤ num o c ∧ num o c < (o.length : Int) := by
  by_cases h : c ∈ o
  · obtain ⟨k, hk, _, e⟩ := num_mem h
    omega
  · rw [num_not h]; omega
theorem num_inj {o : List Int} {x y : Int} (hx : x ∈ o) (hy : y ∈ o) (h : num o x = num o y) : x = y := by
  obtain ⟨j, hj, rfl, e1⟩ := num_mem hx
  obtain ⟨k, hk, rfl, e2⟩ := num_mem hy
  have : j = k := by omega
  subst this
  rfl
theorem num_minus {zs o : List Int} (h : OrdOk zs o) : num o (-1) = -1 := num_not fun hm => by have := h.cells _ hm; rw [isC_minus] at this; cases this
theorem num_upTo {n : Nat} {x : Int} (h : x = -1 ∨ (0 ≤ x ∧ x < (n : Int))) : num (upTo n) x = x := by
  rcases h with rfl | h
  · exact num_not fun hm => by have := upTo_mem.1 hm; omega
  · obtain ⟨k, hk, rfl⟩ : ∃ k : Nat, k < n ∧ x = (k : Int) := ⟨x.toNat, by omega, by omega⟩
    have := num_at (upTo_nodup n) (k := k) (by rw [upTo_length]; exact hk)
    rwa [upTo_at hk] at this

/-- The canonical heap. -/
def canonV (vs zs : List Int) : List Int := vs.map (num (order vs zs))
def canonN (vs zs : List Int) : List Int := (order vs zs).map fun c => num (order vs zs) (nextC zs c)
def goodH (vs zs : List Int) : Bool := goodB zs vs && goodB zs zs
theorem goodH_parts {vs zs : List Int} (h : goodH vs zs = true) : goodB zs vs = true ∧ goodB zs zs = true := by simpa [goodH] using h
/-- The canonical heap of any heap: the zero heap where an element is wrong. -/
def canonVs (vs zs : List Int) : List Int := if goodH vs zs = true then canonV vs zs else []
def canonNs (vs zs : List Int) : List Int := if goodH vs zs = true then canonN vs zs else []

theorem canon_of_upTo {vs zs : List Int} (h : goodH vs zs = true) (ho : order vs zs = upTo zs.length) : canonV vs zs = vs ∧ canonN vs zs = zs := by
  obtain ⟨hv, hz⟩ := goodH_parts h
  unfold canonV canonN
  rw [ho]
  constructor
  · conv => rhs; rw [← List.map_id vs]
    refine List.map_congr_left fun x hx => num_upTo ?_
    exact (goodB_at hv hx).imp id fun h => isC_iff.1 h
  · refine List.ext_getElem (by simp [upTo_length]) fun k h1 h2 => ?_
    simp only [List.getElem_map]
    rw [upTo_at h2, nextC_at h2]
    exact num_upTo ((goodB_at hz (List.getElem_mem h2)).imp id fun h => isC_iff.1 h)
/-- A heap that is its own canonical one: its cells are met in their order. -/
theorem upTo_of_canon {vs zs : List Int} (hv : canonV vs zs = vs) (hz : canonN vs zs = zs) : order vs zs = upTo zs.length := by
  have hE := order_end vs zs
  have hlen : (order vs zs).length = zs.length := by
    have := congrArg List.length hz
    simpa [canonN] using this
  have hall : ∀ x ∈ order vs zs, num (order vs zs) x = x := by
    have hQ : ∀ x ∈ order vs zs, x ∈ order vs zs ∧ num (order vs zs) x = x := by
      refine orderFrom_all (zs := zs) (vs := vs) (o := []) (fun x hx hq hn => ?_) (by simp) (fun v hvm hc => ?_)
      · refine ⟨hE.closed x hq.1 hn, ?_⟩
        obtain ⟨k, hk, e, en⟩ := num_mem hq.1
        have hkx : x = (k : Int) := by rw [← hq.2, en]
        have h2 : (canonN vs zs)[k]'(by simp [canonN]; exact hk) = num (order vs zs) (nextC zs x) := by simp [canonN, e]
        have h3 : zs[k]'(by omega) = num (order vs zs) (nextC zs x) := by rw [← h2]; congr 1; exact hz.symm
        have hkz : k < zs.length := by omega
        have h4 := nextC_at hkz
        rw [← hkx] at h4
        rw [← h3, h4]
      · refine ⟨order_vars hc hvm, ?_⟩
        obtain ⟨k, hk, rfl⟩ := List.getElem_of_mem hvm
        have h2 : (canonV vs zs)[k]'(by simp [canonV]; exact hk) = num (order vs zs) vs[k] := by simp [canonV]
        rw [← h2]
        congr 1
    exact fun x hx => (hQ x hx).2
  refine List.ext_getElem (by rw [upTo_length]; exact hlen) fun k h1 h2 => ?_
  rw [upTo_at (by rw [upTo_length] at h2; exact h2)]
  have := hall _ (List.getElem_mem h1)
  rw [num_at hE.nodup h1] at this
  exact this.symm

/-- New numbers along a chain. -/
theorem canon_next {vs zs : List Int} {c : Int} (hc : c ∈ order vs zs) : isC (canonN vs zs) (num (order vs zs) c) = true ∧ nextC (canonN vs zs) (num (order vs zs) c) = num (order vs zs) (nextC zs c) := by
  obtain ⟨k, hk, e, en⟩ := num_mem hc
  have hk' : k < (canonN vs zs).length := by simp [canonN]; exact hk
  rw [en]
  refine ⟨isC_of hk', ?_⟩
  rw [nextC_at hk']
  simp [canonN, e]
theorem chain_canon {vs zs : List Int} : ∀ {n : Nat} {c : Int}, (isC zs c = true → c ∈ order vs zs) → chain (canonN vs zs) n (num (order vs zs) c) = (chain zs n c).map (num (order vs zs))
  | 0, _, _ => rfl
  | n + 1, c, h => by
    have hE := order_end vs zs
    by_cases hi : isC zs c = true
    · have hc := h hi
      obtain ⟨h1, h2⟩ := canon_next hc
      simp only [chain, h1, hi, if_true, List.map_cons, h2]
      rw [chain_canon fun hn => hE.closed c hc hn]
    · simp only [Bool.not_eq_true] at hi
      have hno : c ∉ order vs zs := fun hm => by rw [hE.cells c hm] at hi; cases hi
      rw [num_not hno, chain_no (isC_minus _), chain_no hi]
      rfl
theorem orderFrom_sub {zs S : List Int} (hS : closedO zs S) {o vs : List Int} (ho : ∀ x ∈ o, x ∈ S) (hv : ∀ v ∈ vs, isC zs v = true → v ∈ S) : ∀ x ∈ orderFrom zs o vs, x ∈ S :=
  orderFrom_all (Q := fun x => x ∈ S) (fun x _ hx hn => hS x hx hn) ho hv
theorem order_canonFrom {vs zs : List Int} : ∀ {ws o : List Int}, OrdEnd zs o → (∀ x ∈ o, x ∈ order vs zs) → (∀ w ∈ ws, isC zs w = true → w ∈ order vs zs) →
    orderFrom (canonN vs zs) (o.map (num (order vs zs))) (ws.map (num (order vs zs))) = (orderFrom zs o ws).map (num (order vs zs))
  | [], _, _, _, _ => rfl
  | w :: ws, o, ho, hs, hw => by
    have hE := order_end vs zs
    have hwm := hw w (by simp)
    have hin : ∀ n, ∀ x ∈ chain zs n w, x ∈ order vs zs := fun n x hx => chain_in hE.closed hwm hx
    have hlen : (canonN vs zs).length = (order vs zs).length := by simp [canonN]
    simp only [List.map_cons, orderFrom]
    rw [chain_canon hwm, addAll_map, hlen, fuel_free (S := order vs zs) (m := zs.length) hE.closed ho.nodup hs ho.closed.to hwm (by omega) (by have := hE.len; omega)]
    · exact order_canonFrom (ho.next w) (fun x hx => by
        rcases addAll_mem.1 hx with hx | hx
        · exact hs x hx
        · exact hin _ x hx) (fun v hv => hw v (by simp [hv]))
    · intro x y hx hy e
      exact num_inj (hx.elim (hs x) (hin _ x)) (hy.elim (hs y) (hin _ y)) e
theorem order_canon (vs zs : List Int) : order (canonV vs zs) (canonN vs zs) = upTo (canonN vs zs).length := by
  have hE := order_end vs zs
  have h1 := order_canonFrom (vs := vs) (zs := zs) (ws := vs) (o := []) OrdEnd.nil_ (by simp) (fun w hw hi => order_vars hi hw)
  have h2 : order (canonV vs zs) (canonN vs zs) = (order vs zs).map (num (order vs zs)) := h1
  rw [h2]
  refine List.ext_getElem (by simp [upTo_length, canonN]) fun k h1 h2 => ?_
  have hk : k < (order vs zs).length := by simpa using h1
  rw [upTo_at (by rw [upTo_length] at h2; exact h2), List.getElem_map, num_at hE.nodup hk]
theorem canon_good (vs zs : List Int) : goodH (canonV vs zs) (canonN vs zs) = true := by
  have hlen : (canonN vs zs).length = (order vs zs).length := by simp [canonN]
  have hb : ∀ c, num (order vs zs) c = -1 ∨ isC (canonN vs zs) (num (order vs zs) c) = true := fun c => by
    by_cases h : c ∈ order vs zs
    · exact .inr (canon_next h).1
    · exact .inl (num_not h)
  have h1 : ∀ l : List Int, (∀ x ∈ l, x = -1 ∨ isC (canonN vs zs) x = true) → goodB (canonN vs zs) l = true := fun l h => by
    rw [goodB, List.all_eq_true]
    exact fun x hx => by have := h x hx; simpa using this
  rw [goodH, h1, h1]
  · rfl
  · intro x hx
    obtain ⟨c, _, rfl⟩ := List.mem_map.1 hx
    exact hb _
  · intro x hx
    obtain ⟨c, _, rfl⟩ := List.mem_map.1 hx
    exact hb _
/-- A canonical heap stays, and has no leak. -/
theorem canon_stays (vs zs : List Int) : canonVs (canonVs vs zs) (canonNs vs zs) = canonVs vs zs ∧ canonNs (canonVs vs zs) (canonNs vs zs) = canonNs vs zs ∧ leakB (canonVs vs zs) (canonNs vs zs) = false := by
  by_cases h : goodH vs zs = true
  · have h1 := canon_good vs zs
    have h2 := canon_of_upTo h1 (order_canon vs zs)
    simp only [canonVs, canonNs, h, if_true, h1, h2, true_and]
    rw [leak_good (goodH_parts h1).2, order_canon, upTo_length]
    simp
  · have h1 : canonVs vs zs = [] := if_neg h
    have h2 : canonNs vs zs = [] := if_neg h
    rw [h1, h2]
    refine ⟨by decide, by decide, by decide⟩

theorem orderFrom_snoc {zs : List Int} (v : Int) : ∀ (l o : List Int), orderFrom zs o (l ++ [v]) = addAll (orderFrom zs o l) (chain zs zs.length v)
  | [], _ => rfl
  | x :: l, o => by
    simp only [List.cons_append, orderFrom]
    exact orderFrom_snoc v l _
theorem orderS_snoc {zs : List Int} (v : Int) : ∀ (l o : List Int), orderS zs o (l ++ [v]) = addAll (orderS zs o l) (followed zs v)
  | [], _ => rfl
  | x :: l, o => by
    simp only [List.cons_append, orderS]
    exact orderS_snoc v l _
theorem followed_here {zs : List Int} (h : goodB zs zs = true) {k : Nat} (hk : k < zs.length) : ∃ hl : (followed zs (k : Int)).length - 1 < (followed zs (k : Int)).length, isC zs (followed zs (k : Int))[(followed zs (k : Int)).length - 1] = true := by
  have hm : (k : Int) ∈ followed zs (k : Int) := by
    rw [followed_good h (.inr (isC_of hk))]
    exact addAll_mem.2 (.inr (chain_here (isC_of hk)))
  have := List.length_pos_of_mem hm
  exact ⟨by omega, (followed_ok zs (k : Int)).cells _ (List.getElem_mem _)⟩

/-- No way leads round. -/
def acycAt (zs : List Int) (k : Int) : Bool := match (followed zs k).getLast? with
  | none => false
  | some x => decide (nextC zs x = -1)
def acyc (zs : List Int) : Bool := (upTo zs.length).all (acycAt zs)
theorem acycAt_of {zs : List Int} {k : Int} (hl : (followed zs k).length - 1 < (followed zs k).length) : acycAt zs k = decide (nextC zs ((followed zs k)[(followed zs k).length - 1]) = -1) := by
  unfold acycAt
  rw [List.getLast?_eq_getElem?, List.getElem?_eq_getElem hl]
theorem upTo_succ (n : Nat) : upTo (n + 1) = upTo n ++ [(n : Int)] := by simp [upTo, List.range_succ]
theorem acyc_bad {zs : List Int} {k : Nat} (hk : k < zs.length) (h : acycAt zs (k : Int) = false) : acyc zs = false := by
  rw [acyc, List.all_eq_false]
  exact ⟨(k : Int), upTo_mem.2 (by omega), by simp [h]⟩
theorem acyc_next {zs : List Int} {k : Nat} (ha : (upTo k).all (acycAt zs) = true) (h : acycAt zs (k : Int) = true) : (upTo (k + 1)).all (acycAt zs) = true := by
  rw [upTo_succ, List.all_append, ha]
  simp [h]
def heapB (n : Int) (vs zs : List Int) : Bool := decide (1 ≤ n ∧ n ≤ 4 ∧ (vs.length : Int) = n ∧ zs.length ≤ 6) && goodH vs zs && acyc zs && decide (order vs zs = upTo zs.length)
theorem heap_stays {n : Int} {vs zs : List Int} (h : heapB n vs zs = true) : canonVs vs zs = vs ∧ canonNs vs zs = zs ∧ leakB vs zs = false := by
  simp only [heapB, Bool.and_eq_true, decide_eq_true_eq] at h
  obtain ⟨⟨⟨_, hg⟩, _⟩, ho⟩ := h
  have h2 := canon_of_upTo hg ho
  refine ⟨by simp only [canonVs, hg, if_true, h2], by simp only [canonNs, hg, if_true, h2], ?_⟩
  rw [leak_good (goodH_parts hg).2, ho, upTo_length]
  simp
/-- Its own canonical heap: that its cells are met in their order. -/
theorem canon_same {vs zs : List Int} (h : goodH vs zs = true) : (decide (vs = canonVs vs zs) && decide (zs = canonNs vs zs)) = decide (order vs zs = upTo zs.length) := by
  simp only [canonVs, canonNs, h, if_true]
  rw [← Bool.decide_and]
  congr 1
  simp only [eq_iff_iff]
  exact ⟨fun hh => upTo_of_canon hh.1.symm hh.2.symm, fun hh => ⟨(canon_of_upTo h hh).1.symm, (canon_of_upTo h hh).2.symm⟩⟩
end Go.Proofs.YtpmmjaceehlpiaaDoor
/-
  The law writes marks into a []string of the program's answer, and looks later whether they are still there.
-/
namespace Go.Proofs.YtpmmjaceehlpiaaDoor
open Go Go.RowKit

def marksFrom (k n : Nat) : List ByteArray := (List.range n).map fun i => markS (k + i)
theorem marks_length (k n : Nat) : (marksFrom k n).length = n := by simp [marksFrom]
theorem marks_next (k n : Nat) : marksFrom k (n + 1) = marksFrom k n ++ [markS (k + n)] := by simp [marksFrom, List.range_succ]
theorem marks_at (k n j : Nat) (h : j < n) : (strVals (marksFrom k n))[j]? = some (.string (markS (k + j))) := by
  simp [strVals, marksFrom, h]
theorem set_take' {α : Type} (ys : List α) (k : Nat) (x : α) (h : k < ys.length) : (ys.set k x).take (k + 1) = ys.take k ++ [x] := by
  rw [List.take_succ_eq_append_getElem (by simpa using h)]
  simp [List.take_set_of_le]

def MarkedEnd (base k n : Nat) (a : Option Addr) (cap : Nat) (w : World) (e : Ending) (w' : World) : Prop :=
  e = .returned (.int .i64 ((k + n : Nat) : Int)) ∧ w'.ownsRow base 9 1 (.slice a n cap) n (strVals (marksFrom k n)) ∧ Below base w w'

set_option maxRecDepth 100000 in
set_option maxHeartbeats 400000 in
theorem markStrs (base k n : Nat) (a : Option Addr) (cap : Nat) (xs : List Value) (w : World) (hn : n ≤ 549755813888) (hk : k ≤ 549755813888) (hB : base ≤ w.heap.size) (hown : w.ownsRow base 9 1 (.slice a n cap) n xs) :
    Calls Tryd.prog 25 #[.slice a n cap, .int .i64 k] w (MarkedEnd base k n a cap w) := by
  go_enter Tryd.func25, Tryd.ntmps25
  go_wp2
  go_loopw [1, 5] (fun m i wr => ∃ (j : Nat) (ys : List Value), j ≤ n ∧ i = .int .i64 j ∧ m = .int .i64 ((k + j : Nat) : Int) ∧ ys.take j = strVals (marksFrom k j) ∧ ys.length = n ∧ wr.ownsRow base 9 1 (.slice a n cap) n ys ∧ Below base w wr)
    (fun _ i _ => n - (intOf i).toNat)
  case atStart => exact ⟨0, xs, Nat.zero_le _, rfl, rfl, by simp [strVals, marksFrom], by simpa using hown.1, hown, Below.refl _ _⟩
  case round =>
    obtain ⟨j, ys, hj, rfl, rfl, hys, hyl, ho, hb⟩ := hrel
    by_cases hlt : j < n
    · obtain ⟨g, rfl⟩ : ∃ g, a = some ⟨g, 0, none⟩ := by
        rcases ho.2 with ⟨_, h0⟩ | ⟨g, _, _, hv, _⟩
        · omega
        · injection hv with hv _ _
          exact ⟨g, hv⟩
      have hklt : j < ys.length := by omega
      have Hys := Lib.hid hys
      have Hyl := Lib.hid hyl
      have Ho := Lib.hid ho
      clear hys hyl ho
      go_wp2_with fail
      refine (markText (k + j) (by omega) _).mono ?_
      rintro e w1 ⟨rfl, hb1⟩
      have ho1 := own_keeps Ho.out hb1
      obtain ⟨old, hold⟩ : ∃ old, w1.cell? ⟨g, j, none⟩ = some old := ⟨_, (ho1.cellAt j (by omega)).trans (List.getElem?_eq_getElem hklt)⟩
      have hfr := ho1.frozenAt j
      have hst := ho1.stored j (.string (markS (k + j)))
      have hgb : base ≤ g := by
        have := (ho1.lt g rfl).1
        exact this
      have hb2 : Below base w w1 := hb.trans (hb1.mono (Nat.le_trans hB hb.size))
      clear ho1
      go_wp2
      go_roundw
      case rel => exact ⟨j + 1, ys.set j (.string (markS (k + j))), by omega, by go_num, by go_num, by rw [set_take' ys j _ hklt, Hys.out, marks_next]; exact (strVals_snoc _ _).symm, by rw [List.length_set]; exact Hyl.out, hst.1, hb2.setCell hgb _⟩
      case measure => simp [intOf]; omega
    · have hjn : j = n := by omega
      subst hjn
      have hfull : ys = strVals (marksFrom k j) := by
        rw [List.take_of_length_le (by omega)] at hys
        exact hys
      subst hfull
      have Hyl := Lib.hid hyl
      clear hys hyl
      go_wp2
      go_ret
      exact ⟨rfl, ho, hb⟩

theorem held_keeps {w cur w1 : World} {p : Addr} {x : Value} (hp : p.block < w.heap.size) (h : cur.cell? p = some x ∧ Below w.heap.size w cur) (hb : Below cur.heap.size cur w1) : w1.cell? p = some x ∧ Below w.heap.size w w1 :=
  ⟨(hb.cell (Nat.lt_of_lt_of_le hp h.2.size)).trans h.1, h.2.trans (hb.mono h.2.size)⟩

/-- All marks are there: the count behind the last. -/
def HeldEnd (k n : Nat) (w : World) (e : Ending) (w' : World) : Prop := e = .returned (.int .i64 ((k + n : Nat) : Int)) ∧ Below w.heap.size w w'

end Go.Proofs.YtpmmjaceehlpiaaDoor
/-
  The model's IsName, IndexOf, AreVars, Positions: what each returns.
-/
namespace Go.Proofs.YtpmmjaceehlpiaaDoor
open Go Go.RowKit

theorem specIn (n lo hi : Int) (w : World) : Calls Tryd.prog 54 #[.int .i64 n, .int .i64 lo, .int .i64 hi] w fun e w' => e = .returned (.bool (decide (lo ≤ n) && decide (n ≤ hi))) ∧ w = w' := by
  by_cases h : lo ≤ n
  · rw [decide_eq_true h, Bool.true_and]
    go_enter Tryd.func54, Tryd.ntmps54
    go_wp2
    go_ret
    exact ⟨rfl, rfl⟩
  · rw [decide_eq_false h, Bool.false_and]
    go_enter Tryd.func54, Tryd.ntmps54
    go_wp2
    go_ret
    exact ⟨rfl, rfl⟩

theorem nat_in (n hi : Nat) : (decide ((1 : Int) ≤ (n : Int)) && decide ((n : Int) ≤ (hi : Int))) = decide (1 ≤ n ∧ n ≤ hi) := by
  rw [← Bool.decide_and]
  congr 1
  simp only [eq_iff_iff]
  omega

set_option maxHeartbeats 400000 in
theorem specIsName (s : ByteArray) (w : World) (hs : s.size ≤ maxLen) : Calls Tryd.prog 99 #[.string s] w fun e w' => e = .returned (.bool (goodName s)) ∧ w = w' := by
  unfold maxLen at hs
  go_enter Tryd.func99, Tryd.ntmps99
  go_wp2
  go_loop [3] (fun i => ∃ k : Nat, k ≤ s.size ∧ i = .int .i64 k ∧ ∀ j (h : j < s.size), j < k → 97 ≤ (s[j]'h).toNat ∧ (s[j]'h).toNat ≤ 122) (fun i => s.size - (intOf i).toNat)
  case atStart => exact ⟨0, Nat.zero_le _, rfl, fun j _ h => by omega⟩
  case round =>
    obtain ⟨k, hk, rfl, hall⟩ := hrel
    have Hall := Lib.hid hall
    clear hall
    by_cases hlt : k < s.size
    · by_cases hlo : (s[k].toNat : Int) < 97
      · have hbad : goodName s = false := name_bad hlt (.inl (by omega))
        have Hbad := Lib.hid hbad
        clear hbad
        go_wp2
        go_ret
        rw [Hbad.out]
        exact ⟨rfl, rfl⟩
      · by_cases hhi : 122 < (s[k].toNat : Int)
        · have hbad : goodName s = false := name_bad hlt (.inr (by omega))
          have Hbad := Lib.hid hbad
          clear hbad
          go_wp2
          go_ret
          rw [Hbad.out]
          exact ⟨rfl, rfl⟩
        · go_wp2
          go_round
          case rel =>
            refine ⟨k + 1, by omega, by go_num, fun j h hj => ?_⟩
            by_cases hjk : j = k
            · subst hjk
              omega
            · exact Hall.out j h (by omega)
          case measure => simp [intOf]; omega
    · have hgood : goodName s = decide (1 ≤ s.size ∧ s.size ≤ 2) := name_whole fun j h => Hall.out j h (by omega)
      have Hgood := Lib.hid hgood
      clear hgood
      go_wp2_with fail
      refine (specIn s.size 1 2 _).mono ?_
      rintro e w1 ⟨rfl, rfl⟩
      go_wp2
      go_ret
      rw [Hgood.out]
      exact ⟨by rw [← nat_in]; rfl, rfl⟩

set_option maxHeartbeats 400000 in
theorem specIndexOf (a : Option Addr) (cap : Nat) (ss : List ByteArray) (s : ByteArray) (w : World) (hlen : ss.length ≤ maxLen) (hrow : Row w w.heap.size a (strVals ss)) :
    Calls Tryd.prog 44 #[.slice a ss.length cap, .string s] w fun e w' => e = .returned (.int .i64 (place ss s)) ∧ w = w' := by
  unfold maxLen at hlen
  go_enter Tryd.func44, Tryd.ntmps44
  go_wp2
  go_loop [5] (fun i => ∃ k : Nat, k ≤ ss.length ∧ i = .int .i64 k ∧ place ss s = placeFrom s k (ss.drop k)) (fun i => ss.length - (intOf i).toNat)
  case atStart => exact ⟨0, Nat.zero_le _, rfl, rfl⟩
  case round =>
    obtain ⟨k, hk, rfl, hp⟩ := hrel
    by_cases hlt : k < ss.length
    · obtain ⟨b, o, rfl, hbW, hc⟩ := hrow k (.string ss[k]) (by simp [strVals, hlt])
      cases he : (ss[k].toList == s.toList) with
      | true =>
        rw [place_hit hlt he] at hp
        have Hp := Lib.hid hp
        clear hp
        go_wp2
        go_ret
        rw [Hp.out]
        exact ⟨rfl, rfl⟩
      | false =>
        rw [place_miss hlt he] at hp
        have Hp := Lib.hid hp
        clear hp
        go_wp2
        go_round
        case rel => exact ⟨k + 1, by omega, by go_num, Hp.out⟩
        case measure => simp [intOf]; omega
    · rw [place_end (by omega)] at hp
      have Hp := Lib.hid hp
      clear hp
      go_wp2
      go_ret
      rw [Hp.out]
      exact ⟨rfl, rfl⟩

set_option maxHeartbeats 400000 in
theorem specAreVars (a : Option Addr) (cap : Nat) (ss : List ByteArray) (w : World) (hlen : ss.length ≤ maxLen) (hws : ∀ s ∈ ss, s.size ≤ maxLen) (hrow : Row w w.heap.size a (strVals ss)) :
    Calls Tryd.prog 86 #[.slice a ss.length cap] w fun e w' => e = .returned (.bool (goodVars ss)) ∧ w = w' := by
  have hlen' := hlen
  unfold maxLen at hlen
  go_enter Tryd.func86, Tryd.ntmps86
  go_wp2
  go_loop [3] (fun i => ∃ k : Nat, k ≤ ss.length ∧ i = .int .i64 k ∧ ∀ j (h : j < ss.length), j < k → goodName ss[j] = true ∧ place ss ss[j] = (j : Int)) (fun i => ss.length - (intOf i).toNat)
  case atStart => exact ⟨0, Nat.zero_le _, rfl, fun j _ h => by omega⟩
  case round =>
    obtain ⟨k, hk, rfl, hall⟩ := hrel
    have Hall := Lib.hid hall
    clear hall
    by_cases hlt : k < ss.length
    · obtain ⟨b, o, rfl, hbW, hc⟩ := hrow k (.string ss[k]) (by simp [strVals, hlt])
      have hsz := hws ss[k] (List.getElem_mem hlt)
      cases hg : goodName ss[k] with
      | false =>
        have hbad : goodVars ss = false := vars_bad hlt (by rw [hg]; simp)
        have Hbad := Lib.hid hbad
        have Hg := Lib.hid hg
        clear hbad hg
        go_wp2_with fail
        refine (specIsName ss[k] _ hsz).mono ?_
        rintro e w1 ⟨rfl, rfl⟩
        rw [Hg.out]
        go_wp2
        go_ret
        rw [Hbad.out]
        exact ⟨rfl, rfl⟩
      | true =>
        have Hg := Lib.hid hg
        clear hg
        go_wp2_with fail
        refine (specIsName ss[k] _ hsz).mono ?_
        rintro e w1 ⟨rfl, rfl⟩
        rw [Hg.out]
        go_wp2_with fail
        refine (specIndexOf _ _ ss ss[k] _ hlen' hrow).mono ?_
        rintro e w1 ⟨rfl, rfl⟩
        by_cases hp : place ss ss[k] = (k : Int)
        · rw [hp]
          have Hp := Lib.hid hp
          clear hp
          go_wp2
          go_round
          case rel =>
            refine ⟨k + 1, by omega, by go_num, fun j h hj => ?_⟩
            by_cases hjk : j = k
            · subst hjk
              exact ⟨Hg.out, Hp.out⟩
            · exact Hall.out j h (by omega)
          case measure => simp [intOf]; omega
        · have hbad : goodVars ss = false := vars_bad hlt (fun h => hp h.2)
          have Hbad := Lib.hid hbad
          have hne : (place ss ss[k] != (k : Int)) = true := by simpa using hp
          clear hbad
          generalize place ss ss[k] = q at *
          go_wp2
          go_ret
          rw [Hbad.out]
          exact ⟨rfl, rfl⟩
    · have hgood : goodVars ss = decide (1 ≤ ss.length ∧ ss.length ≤ 4) := vars_whole fun j h => Hall.out j h (by omega)
      have Hgood := Lib.hid hgood
      clear hgood
      go_wp2_with fail
      refine (specIn ss.length 1 4 _).mono ?_
      rintro e w1 ⟨rfl, rfl⟩
      go_wp2
      go_ret
      rw [Hgood.out]
      exact ⟨by rw [← nat_in]; rfl, rfl⟩

theorem numInfo : (Tryd.prog.info? 3).map (fun i => (i.zero, i.size, i.bytes)) = some (some (.int .i64 0), 1, 8) := by kernel_rfl

set_option maxRecDepth 100000 in
set_option maxHeartbeats 800000 in
theorem specPositions (a : Option Addr) (cap : Nat) (ns : List Int) (n : Int) (w : World) (hlen : ns.length ≤ 1048576) (hrow : Row w w.heap.size a (intVals ns)) :
    Calls Tryd.prog 100 #[.slice a ns.length cap, .int .i64 n] w (Built w.heap.size 3 (intVals (posFrom n 0 ns)) w) := by
  obtain ⟨i0, hi, hz0, hz1, hz2⟩ := info_parts numInfo
  go_enter Tryd.func100, Tryd.ntmps100
  go_wp2
  go_loopw [5, 6] (fun v i wr => ∃ (k : Nat) (qs : List Int), k ≤ ns.length ∧ i = .int .i64 k ∧ qs.length ≤ k ∧ qs ++ posFrom n k (ns.drop k) = posFrom n 0 ns ∧ wr.ownsRow w.heap.size 3 1 v qs.length (intVals qs) ∧ Below w.heap.size w wr)
    (fun _ i _ => ns.length - (intOf i).toNat)
  case atStart => exact ⟨0, [], Nat.zero_le _, rfl, Nat.le_refl _, rfl, World.ownsRow_made w #[] 0 (Nat.le_refl _) (Nat.zero_le _) rfl, (Below.refl _ _).alloc (Nat.le_refl _) _⟩
  case round =>
    obtain ⟨k, qs, hk, rfl, hql, hq, hown, hbw⟩ := hrel
    have Hown := Lib.hid hown
    clear hown
    by_cases hlt : k < ns.length
    · obtain ⟨b, o, rfl, hbW, hc0⟩ := hrow k (.int .i64 ns[k]) (intVals_at ns k hlt)
      have hc : wr.cell? ⟨b, o + k, none⟩ = some (.int .i64 ns[k]) := (hbw.cell (p := ⟨b, o + k, none⟩) hbW).trans hc0
      clear hc0
      by_cases he : ns[k] = n
      · rw [pos_hit hlt he] at hq
        have Hq := Lib.hid hq
        have hd : (ns[k] == n) = true := by simpa using he
        clear hq he
        go_wp2_with (at_builtin; refine wpList_append_own _ rfl (.tmp 20) (.tmp 22) 27 rfl w.heap.size 3 i0 (.int .i64 0) 1 8 Tryd.underlying27 hi hz0 hz1 hz2 rfl (by decide) _ qs.length _ rfl (Hown.out.alloc _) ⟨wr.heap.size, 0, none⟩ 1 1 [.int .i64 (k : Int)] rfl rfl (oneCell_at _) (oneCell_int _) (by unfold maxLen; omega) (by omega) (Nat.le_trans hbw.size (by simp)) ?_; intro v2 w2 hown2 hg2 _; have hb2 := own_below (Hown.out.alloc _) hg2 (Nat.le_trans hbw.size (by simp)) (hbw.alloc hbw.size _); clear hg2)
        go_roundw
        case rel => exact ⟨k + 1, qs ++ [(k : Int)], by omega, by go_num, by simp; omega, by rw [← Hq.out]; simp, by rw [intVals_snoc, List.length_append, List.length_singleton]; exact hown2, hb2⟩
        case measure => simp [intOf]; omega
      · rw [pos_miss hlt he] at hq
        have Hq := Lib.hid hq
        have hd : (ns[k] == n) = false := by simpa using he
        clear hq he
        go_wp2
        go_roundw
        case rel => exact ⟨k + 1, qs, by omega, by go_num, by omega, Hq.out, Hown.out, hbw⟩
        case measure => simp [intOf]; omega
    · rw [pos_end (by omega), List.append_nil] at hq
      have Hq := Lib.hid hq
      clear hq
      go_wp2
      go_ret
      rw [← Hq.out]
      exact built_end (intVals_length _).symm Hown.out hbw
end Go.Proofs.YtpmmjaceehlpiaaDoor
/-
  What the walks of draws share: boxes of any number of cells, the cursor beside what is made since, in the words of intervals.
-/
namespace Go.Proofs.YtpmmjaceehlpiaaDoor
open Go Go.RowKit

theorem turn_drawn {W W' : World} {g : Nat} (h : W.grownBy W' (some g)) : Turn g (g + 1) W W' := Turn.of_grown h fun k hk => by have := Option.some.inj hk; omega
/-- The cursor, and that nothing else that was there has turned. -/
structure Dg (w : World) (g : Nat) (W : World) : Prop where
  cur : Cur W g
  grown : w.grownBy W (some g)
  hg : g < w.heap.size
section
variable {w W W' : World} {g lo hi : Nat}
theorem Dg.start (h : Cur w g) : Dg w g w := ⟨h, only_same _ _, h.lt⟩
theorem Dg.draw (h : Dg w g W) (hc : Cur W' g) (hw : W.grownBy W' (some g)) : Dg w g W' := ⟨hc, only_then h.grown hw, h.hg⟩
theorem Dg.turn (h : Dg w g W) (t : Turn lo hi W W') (hl : w.heap.size ≤ lo) : Dg w g W' :=
  have hg := h.hg
  have hs := h.grown.size
  ⟨h.cur.upto ⟨t.os, t.tape, t.output, t.size, fun k hk => t.block k (by omega) (.inl (by omega))⟩,
    ⟨t.os.trans h.grown.os, t.tape.trans h.grown.tape, t.output.trans h.grown.output, Nat.le_trans hs t.size, fun k hk hne => (t.block k (by omega) (.inl (by omega))).trans (h.grown.block k hk hne)⟩, hg⟩
theorem Dg.below (h : Dg w g W) (hb : Below W.heap.size W W') : Dg w g W' := h.turn (lo := w.heap.size) (hi := w.heap.size) (Turn.of_below hb) (Nat.le_refl _)
end
end Go.Proofs.YtpmmjaceehlpiaaDoor
/-
  Two heaps compared, by the program and by the model: true exactly where variables and next cells are the same.
-/
namespace Go.Proofs.YtpmmjaceehlpiaaDoor
open Go Go.RowKit

theorem same_next {α : Type} {xs ys : List α} {k : Nat} (h : xs.take k = ys.take k) (hx : k < xs.length) (hy : k < ys.length) (he : xs[k] = ys[k]) : xs.take (k + 1) = ys.take (k + 1) := by
  rw [take_next xs k hx, take_next ys k hy, h, he]
theorem same_all {α : Type} {xs ys : List α} {k : Nat} (h : xs.take k = ys.take k) (hx : k = xs.length) (hy : k = ys.length) : xs = ys := by
  rw [List.take_of_length_le (by omega), List.take_of_length_le (by omega)] at h
  exact h
theorem other_at {α : Type} {xs ys : List α} {k : Nat} (hx : k < xs.length) (hy : k < ys.length) (he : xs[k] ≠ ys[k]) : ¬ xs = ys := by
  intro h
  subst h
  exact he rfl

/-- It returned b, and the world is as it was, but for draws. -/
def SaidB (b : Bool) (w : World) (e : Ending) (w' : World) : Prop := ∃ n, e = .returned (.bool b) ∧ w' = w.drewN n

set_option maxHeartbeats 800000 in
theorem equalInts (a b : Option Addr) (ca cb : Nat) (xs ys : List Int) (w : World) (hx : xs.length ≤ maxLen) (ha : Row w w.heap.size a (intVals xs)) (hb : Row w w.heap.size b (intVals ys)) :
    Calls Tryd.prog 53 #[.slice a xs.length ca, .slice b ys.length cb] w (SaidB (decide (xs = ys)) w) := by
  unfold maxLen at hx
  by_cases hl : xs.length = ys.length
  · go_enter Tryd.func53, Tryd.ntmps53
    go_wp2
    go_loopw [13] (fun i wr => ∃ (k n : Nat), k ≤ xs.length ∧ i = .int .i64 k ∧ xs.take k = ys.take k ∧ wr = w.drewN n) (fun i _ => xs.length - (intOf i).toNat)
    case atStart => exact ⟨0, 0, Nat.zero_le _, rfl, rfl, rfl⟩
    case round =>
      obtain ⟨k, n, hk, rfl, hsame, rfl⟩ := hrel
      by_cases hlt : k < xs.length
      · have hlt' : k < ys.length := by omega
        obtain ⟨ba, oa, rfl, _, hca⟩ := ha k (.int .i64 xs[k]) (intVals_at xs k hlt)
        obtain ⟨bb, ob, rfl, _, hcb⟩ := hb k (.int .i64 ys[k]) (intVals_at ys k hlt')
        have Hs := Lib.hid hsame
        clear hsame
        by_cases he : xs[k] = ys[k]
        · have hd : (xs[k] != ys[k]) = false := by simpa using he
          go_wp2
          go_quiet (fail)
          go_wp2
          go_roundw
          case rel => exact ⟨k + 1, _, by omega, by go_num, same_next Hs.out hlt hlt' he, rfl⟩
          case measure => simp [intOf]; omega
        · have hd : (xs[k] != ys[k]) = true := by simpa using he
          have Hne := Lib.hid (other_at hlt hlt' he)
          go_wp2
          go_quiet (fail)
          go_wp2
          go_ret
          exact ⟨_, by rw [decide_eq_false Hne.out]; rfl, World.drewN_drewN ..⟩
      · have Hs := Lib.hid (same_all hsame (by omega) (by omega))
        clear hsame
        go_wp2
        go_ret
        exact ⟨_, by rw [decide_eq_true Hs.out]; rfl, rfl⟩
  · have hne : ¬ xs = ys := fun h => hl (by rw [h])
    have Hne := Lib.hid hne
    clear hne
    go_enter Tryd.func53, Tryd.ntmps53
    go_wp2
    go_ret
    exact ⟨0, by rw [decide_eq_false Hne.out]; rfl, rfl⟩

def sameH (vs zs vs' zs' : List Int) : Bool := decide (vs = vs') && decide (zs = zs')
set_option maxHeartbeats 800000 in
theorem implEqualHeap (a b c d : Option Addr) (ca cb cc cd : Nat) (vs zs vs' zs' : List Int) (w : World) (h1 : vs.length ≤ maxLen) (h2 : zs.length ≤ maxLen) (h : HeapAt w a b vs zs) (h' : HeapAt w c d vs' zs') :
    Calls Tryd.prog 10 #[heV a vs.length ca b zs.length cb, heV c vs'.length cc d zs'.length cd] w (GaveX (.bool (sameH vs zs vs' zs')) w) := by
  have key : ∀ W, Below w.heap.size w W → HeapAt W a b vs zs ∧ HeapAt W c d vs' zs' := fun W hb => ⟨h.below hb (Nat.le_refl _), h'.below hb (Nat.le_refl _)⟩
  go_enter Tryd.func10, Tryd.ntmps10
  go_wp2_with fail
  obtain ⟨W0, hW0, hb0, hs0, ⟨c0, c1⟩, ⟨c2, c3⟩⟩ := two_box2 w (.slice a vs.length ca) (.slice b zs.length cb) (.slice c vs'.length cc) (.slice d zs'.length cd) 29 29
  rw [hW0]
  clear hW0
  refine (equalInts a c ca cc vs vs' _ h1 (key _ hb0).1.v (key _ hb0).2.v).mono ?_
  rintro e w1 ⟨d1, rfl, rfl⟩
  have hB1 : Below w.heap.size w (W0.drewN d1) := below_draws hb0 _
  cases hq : decide (vs = vs') with
  | false =>
    go_wp2
    go_ret
    exact ⟨by rw [sameH, hq]; rfl, hB1⟩
  | true =>
    go_wp2_with fail
    refine (equalInts b d cb cd zs zs' _ h2 (key _ hB1).1.z (key _ hB1).2.z).mono ?_
    rintro e w2 ⟨d2, rfl, rfl⟩
    go_wp2
    go_ret
    exact ⟨by rw [sameH, hq]; rfl, below_draws hb0 _⟩
end Go.Proofs.YtpmmjaceehlpiaaDoor
/-
  The map from cells to their numbers, in the order in which they were met.
-/
namespace Go.Proofs.YtpmmjaceehlpiaaDoor
open Go Go.RowKit Go.Maps

def mapFrom {H : Type} : Nat → DataW H → List Int → DataW H
  | _, D, [] => D
  | k, D, c :: cs => mapFrom (k + 1) (D.put (.int .i64 c) (.lit (.int .i64 (k : Int)))) cs
def mapOf {H : Type} (o : List Int) : DataW H := mapFrom 0 (.map []) o
theorem mapFrom_snoc {H : Type} (c : Int) : ∀ (o : List Int) (k : Nat) (D : DataW H), mapFrom k D (o ++ [c]) = (mapFrom k D o).put (.int .i64 c) (.lit (.int .i64 ((k + o.length : Nat) : Int)))
  | [], k, D => rfl
  | x :: o, k, D => by
    simp only [List.cons_append, mapFrom, List.length_cons]
    rw [mapFrom_snoc c o (k + 1)]
    rw [show k + 1 + o.length = k + (o.length + 1) by omega]
theorem mapOf_snoc {H : Type} (o : List Int) (c : Int) : (mapOf (o ++ [c]) : DataW H) = (mapOf o).put (.int .i64 c) (.lit (.int .i64 (o.length : Int))) := by
  simp only [mapOf, mapFrom_snoc, Nat.zero_add]
theorem lit_ne {x c : Int} (h : x ≠ c) : (Lit.int .i64 x) ≠ .int .i64 c := fun e => h (by cases e; rfl)
theorem snoc_cases {α : Type} (l : List α) : l = [] ∨ ∃ a x, l = a ++ [x] := by
  rcases List.eq_nil_or_concat l with h | ⟨a, x, h⟩
  · exact .inl h
  · exact .inr ⟨a, x, by simpa using h⟩
theorem keyLit (x : Int) : WideAt.IsKeyLit (.int .i64 x) := trivial
/-- What the map says of a key. -/
structure MapSays {H : Type} (o : List Int) : Prop where
  tidy : Tidy (mapOf o : DataW H)
  has_ : ∀ x : Int, Maps.has (mapOf o : DataW H) (.int .i64 x) = decide (x ∈ o)
  at_ : ∀ x : Int, x ∈ o → ∀ z, (mapOf o : DataW H).atKey (.int .i64 x) z = .lit (.int .i64 (num o x))
  size_ : Maps.size (mapOf o : DataW H) = o.length
theorem mapSays {H : Type} : ∀ (n : Nat) (o : List Int), o.length = n → o.Nodup → MapSays (H := H) o
  | 0, o, hl, _ => by
    have : o = [] := List.eq_nil_of_length_eq_zero hl
    subst this
    exact ⟨tidy_empty, fun x => by simp [mapOf, mapFrom, Maps.has], fun x h => by simp at h, rfl⟩
  | n + 1, o, hl, hn => by
    rcases snoc_cases o with rfl | ⟨a, c, rfl⟩
    · simp at hl
    · have ha : a.Nodup ∧ c ∉ a := by
        rw [List.nodup_append] at hn
        exact ⟨hn.1, fun h => hn.2.2 c h c (by simp) rfl⟩
      have ih := mapSays (H := H) n a (by simpa using hl) ha.1
      have hno : Maps.has (mapOf a : DataW H) (.int .i64 c) = false := by rw [ih.has_]; simp [ha.2]
      refine ⟨?_, fun x => ?_, fun x hx z => ?_, ?_⟩
      · rw [mapOf_snoc]
        exact ih.tidy.put (keyLit c) _
      · rw [mapOf_snoc]
        by_cases h : x = c
        · subst h
          rw [Maps.has_put_same ih.tidy.isMap (keyLit x)]
          simp
        · rw [Maps.has_put_other (lit_ne h), ih.has_]
          simp [h]
      · rw [mapOf_snoc]
        by_cases h : x = c
        · subst h
          rw [Maps.atKey_put_same ih.tidy.isMap (keyLit x), num_snoc_new ha.2]
        · rw [Maps.atKey_put_other (lit_ne h), num_snoc_old h]
          refine ih.at_ x ?_ z
          rcases List.mem_append.1 hx with hx | hx
          · exact hx
          · simp at hx; exact absurd hx h
      · rw [mapOf_snoc, Maps.size_put ih.tidy, hno, ih.size_]
        simp
theorem says {H : Type} {o : List Int} (h : o.Nodup) : MapSays (H := H) o := mapSays _ o rfl h

/-- How many entries a map's block has. -/
def mapSize (w : World) (b : Nat) : Nat := match w.heap[b]? with
  | some (.map es _) => es.size
  | _ => 0
theorem World.ownsMap.mapSize_eq {H : Type} {P : Program} {k : TypeId} {R : Value → Option (DataW H × List MemPlace)} {w : World} {b n : Nat} {D : DataW H} (h : w.ownsMap P k R b n D) : mapSize w b = Maps.size D := by
  obtain ⟨es, clock, hb, _, _, rfl⟩ := h
  simp [mapSize, hb, Maps.size, length_sorted]
/-- A cell lies in no map's block. -/
theorem World.ownsMap.ne_cell {H : Type} {P : Program} {k : TypeId} {R : Value → Option (DataW H × List MemPlace)} {w : World} {b n : Nat} {D : DataW H} (h : w.ownsMap P k R b n D) {g o : Nat} {x : Value} (hc : w.cell? ⟨g, o, none⟩ = some x) : g ≠ b := by
  obtain ⟨es, clock, hb, _⟩ := h
  intro e
  subst e
  simp [World.cell?, hb] at hc

theorem lawK : Keyed Tryd.prog 3 := int_keyed Tryd.underlying3
theorem zeroE (w : World) : (zeroValue 3).run Tryd.prog w = .ok (.int .i64 0) w := by kernel_rfl
/-- A map of the program that numbers the cells in their order. -/
def Numbers (H : Type) (w : World) (mb : Nat) (o : List Int) : Prop := w.ownsMap (H := H) Tryd.prog 3 (plainElem Tryd.prog 3) mb o.length (mapOf o)
section
variable {H : Type} {w w' : World} {mb : Nat} {o : List Int}
theorem Numbers.below (h : Numbers H w mb o) (hb : Below w.heap.size w w') : Numbers H w' mb o :=
  World.ownsMap.kept (row := none) h ⟨hb.os, hb.tape, hb.output, hb.size, fun k hk _ => hb.block k hk⟩ (by simp)
theorem Numbers.row {B : Nat} {a : Option Addr} {xs : List Value} (h : Numbers H w mb o) (hr : Row w B a xs) (hg : w.grownBy w' (some mb)) : Row w' B a xs := fun k x hx => by
  obtain ⟨b, o', e, hb, hc⟩ := hr k x hx
  exact ⟨b, o', e, hb, hg.cell hc fun e => World.ownsMap.ne_cell h hc (by injection e)⟩
end
theorem grown_next {a b c : World} {r : Option Nat} (h : a.grownBy b r) (k : b.grownBy c r) : a.grownBy c r :=
  ⟨k.os.trans h.os, k.tape.trans h.tape, k.output.trans h.output, Nat.le_trans h.size k.size, fun j hj hd => (k.block j (Nat.lt_of_lt_of_le hj h.size) hd).trans (h.block j hj hd)⟩
theorem grown_below {a b c : World} {r : Option Nat} (h : a.grownBy b r) (k : Below b.heap.size b c) : a.grownBy c r :=
  grown_next h ⟨k.os, k.tape, k.output, k.size, fun j hj _ => k.block j hj⟩
end Go.Proofs.YtpmmjaceehlpiaaDoor
