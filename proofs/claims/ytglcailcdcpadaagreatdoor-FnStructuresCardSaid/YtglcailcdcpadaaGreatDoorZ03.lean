/-
  Several texts of one proof in one file, in the order in which they build.
-/
import Derived.WalkKit
import Derived.ProofKit
import Derived.OpenShut
import Derived.Carry
import Derived.MapKept
import Derived.Laws.StructEq
import Derived.SliceStrings
import Derived.Deep.Draws
import Derived.Deep.QuietTactic
import Derived.BigQuiet
import Derived.Deep.DeepHandedRow
import Derived.Lib.Hide
import Derived.Lib.AppendStr
import Derived.Lib.QuietBelow
import Derived.Test.YtglcailcdcpadaaGreatDoorChecked
import Derived.Lib.SmallJoins
import Derived.Deep.Slices
/-
  Words that the proofs of this seat share: a row of cells behind a slice (nil let in), a law's last step, sums of lengths. Nothing here knows of the program.
-/
namespace Go.Proofs.YtglcailcdcpadaaGreatDoor
open Go Go.ChangeShapes Go.WideShapes Go.ChangeAt Go.RowKit

/-- The cells from an address on, all below block B: with no cell asked, any address will do. -/
def Row (w : World) (B : Nat) (a : Option Addr) (xs : List Value) : Prop :=
  ∀ k x, xs[k]? = some x → ∃ b o, a = some ⟨b, o, none⟩ ∧ b < B ∧ w.cell? ⟨b, o + k, none⟩ = some x

theorem Row.keeps {w w' : World} {B : Nat} {a : Option Addr} {xs : List Value} (h : Row w B a xs) (hk : ∀ p : Addr, p.block < B → w'.cell? p = w.cell? p) : Row w' B a xs := by
  intro k x hx
  obtain ⟨b, o, e, hb, hc⟩ := h k x hx
  exact ⟨b, o, e, hb, (hk _ hb).trans hc⟩
theorem Row.below {w w' : World} {B : Nat} {a : Option Addr} {xs : List Value} (h : Row w B a xs) (hb : Below B w w') : Row w' B a xs := h.keeps fun _ hp => hb.cell hp
theorem Row.grow {w : World} {B B' : Nat} {a : Option Addr} {xs : List Value} (h : Row w B a xs) (hB : B ≤ B') : Row w B' a xs := by
  intro k x hx
  obtain ⟨b, o, e, hb, hc⟩ := h k x hx
  exact ⟨b, o, e, by omega, hc⟩
theorem Row.nil_ {w : World} {B : Nat} {a : Option Addr} : Row w B a [] := fun k x hx => by simp at hx
theorem Row.owned {w : World} {base : Nat} {e : TypeId} {n : Nat} {a : Option Addr} {c : Nat} {xs : List Value} (h : w.ownsRow base e 1 (.slice a n c) n xs) : Row w w.heap.size a xs := by
  intro k x hx
  rcases h.2 with ⟨hv, hn⟩ | ⟨g, cap, cur, hv, _, hg, _⟩
  · have hl := h.1
    rw [hn] at hl
    have : xs = [] := List.eq_nil_of_length_eq_zero (by simpa using hl)
    rw [this] at hx
    simp at hx
  · injection hv with ha _ _
    refine ⟨g, 0, ha, ?_, ?_⟩
    · rcases Nat.lt_or_ge g w.heap.size with h1 | h1
      · exact h1
      · rw [Array.getElem?_eq_none h1] at hg; cases hg
    · have hc := h.cells (g := g) (by subst ha; rfl) k x hx
      rw [add_plain] at hc
      exact hc

/-- Behind an append to a row of the call's own: what lies below is as it was. -/
theorem own_cell {wr w1 : World} {B e m : Nat} {v : Value} {xs : List Value} {p : Addr} {x : Value} (hown : wr.ownsRow B e 1 v m xs) (hg : wr.grownBy w1 v.ownBlock) (hp : p.block < B) (hc : wr.cell? p = some x) : w1.cell? p = some x :=
  hg.cell hc fun h => by have := (hown.lt _ h.symm).1; omega
theorem own_below {w wr w1 : World} {B e m : Nat} {v : Value} {xs : List Value} (hown : wr.ownsRow B e 1 v m xs) (hg : wr.grownBy w1 v.ownBlock) (hB : B ≤ wr.heap.size) (hb : Below B w wr) : Below B w w1 :=
  hb.grown hg hB fun k hk => (hown.lt k hk).1

theorem own_base {w : World} {base base' e size n : Nat} {v : Value} {xs : List Value} (h : w.ownsRow base e size v n xs) (hb : base' ≤ base) : w.ownsRow base' e size v n xs :=
  ⟨h.1, h.2.imp id fun ⟨g, cap, cur, a, b, r⟩ => ⟨g, cap, cur, a, Nat.le_trans hb b, r⟩⟩
theorem own_keeps {w w' : World} {base e size n : Nat} {v : Value} {xs : List Value} (h : w.ownsRow base e size v n xs) (hb : Below w.heap.size w w') : w'.ownsRow base e size v n xs :=
  h.kept (row := none) ⟨hb.os, hb.tape, hb.output, hb.size, fun k hk _ => hb.block k hk⟩ (by cases hv : v.ownBlock <;> simp)
theorem below_draws {B : Nat} {a w : World} (h : Below B a w) (n : Nat) : Below B a (w.drewN n) := ⟨h.os, h.tape, h.output, h.size, h.block⟩

/-- Every argument reads behind the call as it did before, if nothing old has turned. -/
theorem trodAll_stay {H : Type} {enc : TypeId × Value → H} {P : Program} (hl : laidOutB P = true) {W W' : World} (hb : Below W.heap.size W W') :
    ∀ {ts : List TypeId} {vs : List Value} {ds : List (DataW H)} {ps : List MemPlace}, (ts.all fun t => P.readableRec t && decide (t < P.types.size)) = true → (∀ x ∈ ps, x.block < W.heap.size) →
      DataW.TrodAll enc P W 0 (fun _ => true) true ts vs ds ps → DataW.TrodAll enc P W' 0 (fun b => decide (b < W.heap.size)) true ts vs ds ps
  | [], [], [], _, _, _, h => h
  | [], [], _ :: _, _, _, _, h => h.elim
  | [], _ :: _, _, _, _, _, h => h.elim
  | _ :: _, [], _, _, _, _, h => h.elim
  | _ :: _, _ :: _, [], _, _, _, h => h.elim
  | t :: ts, v :: vs, d :: ds, ps, hr, hlt, h => by
    obtain ⟨p, q, h0, hs, rfl⟩ := h
    simp only [List.all_cons, Bool.and_eq_true, decide_eq_true_eq] at hr
    exact ⟨p, q, Below.trod hl hr.1.1 hr.1.2 h0 hb (fun x hx => hlt x (by simp [hx])), trodAll_stay hl hb hr.2 (fun x hx => hlt x (by simp [hx])) hs, rfl⟩

/-- A law's last step: it returned true, and nothing that was there has turned. -/
theorem law_post {H : Type} {enc : TypeId × Value → H} {P : Program} (hl : laidOutB P = true) {f : Func} {s : ChangeSpec} {W W' : World} {args : Array Value} {ds gs : List (DataW H)} {before : List MemPlace} {bt : TypeId}
    (hvars : s.vars = []) (hp : (f.params.toList.all fun t => P.readableRec t && decide (t < P.types.size)) = true) (hres : f.resultTypes = #[bt]) (hbt : P.underlying bt = some .bool)
    (hW : DataW.Whole enc P f.params.toList s.vars false W args.toList ds gs before) (hfn : s.fn H ds = { results := [.lit (.bool true)], args := ds }) (hb : Below W.heap.size W W') :
    s.post enc P f false true false false W args (.bool true) W' := by
  have hW' := hW
  obtain ⟨p, q, hA, hV, rfl, _, _⟩ := hW
  rw [hvars] at hV
  obtain ⟨rfl, rfl⟩ := trodVars_none hV
  simp only [List.append_nil] at hW'
  have hlt : ∀ x ∈ p, x.block < W.heap.size := fun x hx => by simpa using hW'.lt x hx
  refine ⟨ds, [], p, [], p, [], hW', ?_, ?_, ?_, hb.frame _, fun h => by cases h⟩
  · rw [List.append_nil, hfn, hres]
    exact trodAll_mk1 (shut_bool hbt true)
  · rw [List.append_nil, hfn]
    exact trodAll_stay hl hb hp hlt hA
  · rw [hvars, List.append_nil, hfn]
    rfl

theorem str_ne_false {a b : ByteArray} (h : a = b) : (a != b) = false := by
  rw [bne, (MapKept.bytes_beq a b).2 h]
  rfl
theorem str_ne_true {a b : ByteArray} (h : a ≠ b) : (a != b) = true := by
  rw [bne]
  cases hh : (a == b) with
  | false => rfl
  | true => exact absurd ((MapKept.bytes_beq a b).1 hh) h
theorem bytes_of_list {l : List UInt8} {s : ByteArray} (h : l = s.data.toList) : (⟨l.toArray⟩ : ByteArray) = s := by
  subst h
  rfl
theorem list_of_bytes {l : List UInt8} {s : ByteArray} (h : (⟨l.toArray⟩ : ByteArray) = s) : l = s.data.toList := by
  subst h
  rfl

theorem lists_eq {l : List UInt8} {s : ByteArray} (h : l = s.data.toList) : (l == s.toList) = true := by
  rw [ByteArray.toList_eq, h]
  simp
theorem lists_ne {l : List UInt8} {s : ByteArray} (h : ¬ l = s.data.toList) : (l == s.toList) = false := by
  rw [ByteArray.toList_eq]
  simpa using h

theorem i64_bounds {n : Int} (h : (Lit.int .i64 n).wf = true) : -9223372036854775808 ≤ n ∧ n ≤ 9223372036854775807 := by
  simp [Lit.wf, IntKind.min, IntKind.max, IntKind.signed, IntKind.bits] at h
  omega

theorem u8_bounds {n : Int} (h : (Lit.int .u8 n).wf = true) : 0 ≤ n ∧ n ≤ 255 := by
  simp [Lit.wf, IntKind.min, IntKind.max, IntKind.signed, IntKind.bits] at h
  omega

/-- Strings as cells; the sum of their lengths. -/
def strVals (ss : List ByteArray) : List Value := ss.map Value.string
theorem strVals_snoc (l : List ByteArray) (x : ByteArray) : strVals (l ++ [x]) = strVals l ++ [.string x] := by simp [strVals]
def total (ss : List ByteArray) : Nat := (ss.map ByteArray.size).sum
theorem total_append (a b : List ByteArray) : total (a ++ b) = total a + total b := by simp [total]
theorem total_one (s : ByteArray) : total [s] = s.size := by simp [total]
theorem take_next {α : Type} (l : List α) (k : Nat) (h : k < l.length) : l.take (k + 1) = l.take k ++ [l[k]] := by
  rw [List.take_succ_eq_append_getElem h]
theorem total_take_next (ss : List ByteArray) (k : Nat) (h : k < ss.length) : total (ss.take (k + 1)) = total (ss.take k) + ss[k].size := by
  rw [take_next ss k h, total_append, total_one]

/-- A []string argument, opened: its strings, their cells, their bounds. -/
theorem open_strs {H : Type} {enc : TypeId × Value → H} {P : Program} {W : World} {t e : TypeId} {v : Value} {d : DataW H} {ps : List MemPlace} {base : Nat}
    (ht : P.underlying t = some (.slice e)) (he : P.underlying e = some .string) (hc : P.cellsOf e = 1) (hlt : ∀ x ∈ ps, x.block < W.heap.size)
    (hval : Value.okWide P W .any base t v) (h : DataW.Trod enc P W 0 (fun _ => true) true t v d ps) :
    ∃ (a : Option Addr) (cap : Nat) (ss : List ByteArray), v = .slice a ss.length cap ∧ ss.length ≤ cap ∧ ss.length ≤ maxLen ∧ Row W W.heap.size a (strVals ss) ∧ (∀ s ∈ ss, s.size ≤ maxLen) ∧
      (d = .nil ∨ ∃ sp, d = .slice (strs ss) sp) ∧ (a = none → ss = [] ∧ cap = 0) := by
  obtain ⟨a0, len, cap, rfl⟩ := okWide_slice ht hval
  obtain ⟨fuel, hf⟩ := h
  rcases open_strings ht he hc hf with ⟨hcs, hx⟩ | ⟨a, len', cap', ss, hcs, _, hl, hm, hz, hx, hcell, hws⟩
  · simp [Value.cells] at hcs
    obtain ⟨rfl, rfl, rfl⟩ := hcs
    simp only [Prod.mk.injEq] at hx
    exact ⟨none, 0, [], rfl, Nat.le_refl _, Nat.zero_le _, Row.nil_, (fun s hs => by simp at hs), .inl hx.1, fun _ => ⟨rfl, rfl⟩⟩
  · simp [Value.cells] at hcs
    obtain ⟨rfl, rfl, rfl⟩ := hcs
    simp only [Prod.mk.injEq] at hx
    obtain ⟨rfl, rfl⟩ := hx
    simp only [if_true] at hz
    have hlen : (ss.take len).length = len := by simp; omega
    refine ⟨some a, cap, ss.take len, by rw [hlen], by omega, by omega, ?_, fun s hs => hws s (List.mem_of_mem_take hs), .inr ⟨_, rfl⟩, fun h => by cases h⟩
    intro k x hx
    obtain ⟨hk, rfl⟩ := List.getElem?_eq_some_iff.1 hx
    have hk' : k < len := by simpa [strVals, hz] using (Nat.lt_of_lt_of_le hk (by simp [strVals]; omega) : k < len)
    obtain ⟨b, off, spot⟩ := a
    have hspot : spot = none := by simpa [Addr.add] using World.cell?_spot (hcell 0 (by omega))
    subst hspot
    refine ⟨b, off, rfl, hlt (.cell b (off + 0)) (MemPlace.mem_row.2 ⟨0, by omega, by simp⟩), ?_⟩
    rw [← add_plain, hcell k (by omega)]
    have hk2 : k < ss.length := by omega
    simp [strVals, List.getD, hk2]
end Go.Proofs.YtglcailcdcpadaaGreatDoor
/-
  Rows that lie apart: the law's copy of its argument, the program's answer, the model's answer: each turns alone. Nothing here knows of the program.
-/
namespace Go.Proofs.YtglcailcdcpadaaGreatDoor
open Go Go.RowKit

theorem own_other {w w' : World} {base e size n : Nat} {v : Value} {xs : List Value} {row : Option Nat} (h : w.ownsRow base e size v n xs) (hg : w.grownBy w' row) (hne : ∀ k, v.ownBlock = some k → some k ≠ row) : w'.ownsRow base e size v n xs := by
  refine ⟨h.1, h.2.imp id ?_⟩
  rintro ⟨g, cap, cur, rfl, hb, hgc, r⟩
  refine ⟨g, cap, cur, rfl, hb, ?_, r⟩
  have hlt : g < w.heap.size := by
    rcases Nat.lt_or_ge g w.heap.size with h1 | h1
    · exact h1
    · rw [Array.getElem?_eq_none h1] at hgc; cases hgc
  rw [hg.block g hlt (hne g rfl)]
  exact hgc
theorem grown_self (w : World) (r : Option Nat) : w.grownBy w r := ⟨rfl, rfl, rfl, Nat.le_refl _, fun _ _ _ => rfl⟩
theorem grown_cell {w W : World} {g i : Nat} {u : Value} (h : w.grownBy W (some g)) : w.grownBy (W.setCell ⟨g, i, none⟩ u) (some g) :=
  ⟨h.os, h.tape, h.output, by simpa using h.size, fun k hk hne => (heap_setCell_other W ⟨g, i, none⟩ k _ (fun e => hne (by simp [e]))).trans (h.block k hk hne)⟩

/-- The copy (x, at block s2), the answer (g, from s3 on), the model's answer (p, below s2). -/
structure Trio (W0 W : World) (s2 s3 : Nat) (ex : TypeId) (xn : Nat) (xs : List Value) (eg : TypeId) (vg : Value) (m : Nat) (gs : List Value) (ap : Option Addr) (ps : List Value) : Prop where
  x : W.ownsRow s2 ex 1 (.slice (some ⟨s2, 0, none⟩) xn xn) xn xs
  g : W.ownsRow s3 eg 1 vg m gs
  p : Row W s2 ap ps
  lt : s2 < s3
  le : s3 ≤ W.heap.size
  old : W0.heap.size ≤ s2
  below : Below W0.heap.size W0 W

section
variable {W0 W W' : World} {s2 s3 : Nat} {ex : TypeId} {xn : Nat} {xs : List Value} {eg : TypeId} {vg : Value} {m : Nat} {gs : List Value} {ap : Option Addr} {ps : List Value}

theorem Trio.call (h : Trio W0 W s2 s3 ex xn xs eg vg m gs ap ps) (hb : Below W.heap.size W W') : Trio W0 W' s2 s3 ex xn xs eg vg m gs ap ps := by
  have := h.le
  have := h.lt
  have := h.old
  exact ⟨own_keeps h.x hb, own_keeps h.g hb, h.p.keeps fun _ hp => hb.cell (by omega), h.lt, Nat.le_trans h.le hb.size, h.old, h.below.trans (hb.mono (by omega))⟩
theorem Trio.draws (h : Trio W0 W s2 s3 ex xn xs eg vg m gs ap ps) (n : Nat) : Trio W0 (W.drewN n) s2 s3 ex xn xs eg vg m gs ap ps := h.call (below_draws (Below.refl _ _) n)
theorem Trio.markX {xs' : List Value} (h : Trio W0 W s2 s3 ex xn xs eg vg m gs ap ps) (hg : W.grownBy W' (some s2)) (hx : W'.ownsRow s2 ex 1 (.slice (some ⟨s2, 0, none⟩) xn xn) xn xs') : Trio W0 W' s2 s3 ex xn xs' eg vg m gs ap ps := by
  have := h.le
  have := h.lt
  have := h.old
  refine ⟨hx, own_other h.g hg fun k hk e => ?_, h.p.keeps fun p hp => World.cell?_of_block (hg.block _ (by omega) fun e => ?_), h.lt, Nat.le_trans h.le hg.size, h.old, h.below.grown hg (by omega) fun k hk => by cases hk; exact h.old⟩
  · have := (h.g.lt k hk).1
    cases e
    omega
  · injection e with e
    omega
theorem Trio.markG {gs' : List Value} (h : Trio W0 W s2 s3 ex xn xs eg vg m gs ap ps) (hg : W.grownBy W' vg.ownBlock) (hx : W'.ownsRow s3 eg 1 vg m gs') : Trio W0 W' s2 s3 ex xn xs eg vg m gs' ap ps := by
  have := h.le
  have := h.lt
  have := h.old
  refine ⟨own_other h.x hg fun k hk e => ?_, hx, h.p.keeps fun p hp => World.cell?_of_block (hg.block _ (by omega) fun e => ?_), h.lt, Nat.le_trans h.le hg.size, h.old, h.below.grown hg (by omega) fun k hk => ?_⟩
  · have := (h.g.lt k e.symm).1
    have hk' : s2 = k := Option.some.inj hk
    omega
  · have := (h.g.lt _ e.symm).1
    omega
  · have := (h.g.lt k hk).1
    omega
theorem Trio.rowX (h : Trio W0 W s2 s3 ex xn xs eg vg m gs ap ps) : Row W W.heap.size (some ⟨s2, 0, none⟩) xs := Row.owned h.x
theorem Trio.rowG {a : Option Addr} {c : Nat} (h : Trio W0 W s2 s3 ex xn xs eg (.slice a m c) m gs ap ps) : Row W W.heap.size a gs := Row.owned h.g
theorem Trio.rowP (h : Trio W0 W s2 s3 ex xn xs eg vg m gs ap ps) : Row W W.heap.size ap ps := h.p.grow (Nat.le_trans (Nat.le_of_lt h.lt) h.le)
theorem Trio.rowOld {a : Option Addr} {zs : List Value} (h : Trio W0 W s2 s3 ex xn xs eg vg m gs ap ps) (hr : Row W0 W0.heap.size a zs) : Row W W.heap.size a zs := (hr.below h.below).grow h.below.size
end
end Go.Proofs.YtglcailcdcpadaaGreatDoor
/-
  Rows of ints: their cells, a []int argument opened, one cell behind an append. Nothing here knows of the program.
-/
namespace Go.Proofs.YtglcailcdcpadaaGreatDoor
open Go Go.ChangeShapes Go.WideShapes Go.ChangeAt Go.RowKit

def intVals (ns : List Int) : List Value := ns.map (Value.int .i64)
theorem intVals_snoc (l : List Int) (x : Int) : intVals (l ++ [x]) = intVals l ++ [.int .i64 x] := by simp [intVals]
theorem intVals_length (l : List Int) : (intVals l).length = l.length := by simp [intVals]
theorem intVals_at (l : List Int) (k : Nat) (h : k < l.length) : (intVals l)[k]? = some (.int .i64 l[k]) := by simp [intVals, h]

theorem oneCell_at {w : World} {e : TypeId} (x : Value) : ∀ (j : Nat) (u : Value), [x][j]? = some u → (w.alloc (.cells #[x] e)).cell? ((⟨w.heap.size, 0, none⟩ : Addr).add j) = some u := by
  intro j u hu
  match j, hu with
  | 0, hu =>
    simp at hu
    subst hu
    simp [Addr.add]
  | j + 1, hu => simp at hu
theorem oneCell_int (x : Int) : ∀ u ∈ [Value.int .i64 x], u.oneCell' = true := by
  intro u hu
  simp at hu
  subst hu
  rfl
theorem oneCell_str (x : ByteArray) : ∀ u ∈ [Value.string x], u.oneCell' = true := by
  intro u hu
  simp at hu
  subst hu
  rfl

/-- A row that a call has built: nil, or a block of its own. -/
def Built (base : Nat) (e : TypeId) (xs : List Value) (w : World) (en : Ending) (w' : World) : Prop :=
  ∃ a cap, en = .returned (.slice a xs.length cap) ∧ xs.length ≤ cap ∧ w'.ownsRow base e 1 (.slice a xs.length cap) xs.length xs ∧ Below base w w'
theorem built_end {w w' : World} {base : Nat} {e : TypeId} {v : Value} {n : Nat} {xs : List Value} (hn : n = xs.length) (h : w'.ownsRow base e 1 v n xs) (hb : Below base w w') : Built base e xs w (.returned v) w' := by
  subst hn
  rcases h.2 with ⟨rfl, h0⟩ | ⟨g, cap, cur, rfl, hbg, hg, hnc, hcm, hcs, ht⟩
  · refine ⟨none, 0, ?_, by omega, ?_, hb⟩
    · rw [h0]
    · rw [h0] at h ⊢
      exact h
  · exact ⟨_, cap, rfl, hnc, h, hb⟩

/-- A []int argument, opened: its numbers, their cells, their bounds. -/
theorem open_nums {H : Type} {enc : TypeId × Value → H} {P : Program} {W : World} {t e : TypeId} {v : Value} {d : DataW H} {ps : List MemPlace} {base : Nat}
    (ht : P.underlying t = some (.slice e)) (he : P.underlying e = some (.int .i64)) (hc : P.cellsOf e = 1) (hlt : ∀ x ∈ ps, x.block < W.heap.size)
    (hval : Value.okWide P W .any base t v) (h : DataW.Trod enc P W 0 (fun _ => true) true t v d ps) :
    ∃ (a : Option Addr) (cap : Nat) (ns : List Int), v = .slice a ns.length cap ∧ ns.length ≤ cap ∧ ns.length ≤ maxLen ∧ Row W W.heap.size a (intVals ns) ∧ (∀ n ∈ ns, -9223372036854775808 ≤ n ∧ n ≤ 9223372036854775807) ∧ (a = none → ns = [] ∧ cap = 0) := by
  obtain ⟨a0, len, cap, rfl⟩ := okWide_slice ht hval
  obtain ⟨fuel, hf⟩ := h
  rcases open_ints ht he hc hf with ⟨hcs, hx⟩ | ⟨a, len', cap', zs, hcs, _, hl, hm, hz, hx, hcell, hws⟩
  · simp [Value.cells] at hcs
    obtain ⟨rfl, rfl, rfl⟩ := hcs
    exact ⟨none, 0, [], rfl, Nat.le_refl _, Nat.zero_le _, Row.nil_, (fun s hs => by simp at hs), fun _ => ⟨rfl, rfl⟩⟩
  · simp [Value.cells] at hcs
    obtain ⟨rfl, rfl, rfl⟩ := hcs
    simp only [Prod.mk.injEq] at hx
    obtain ⟨rfl, rfl⟩ := hx
    simp only [if_true] at hz
    have hlen : (zs.take len).length = len := by simp; omega
    refine ⟨some a, cap, zs.take len, by rw [hlen], by omega, by omega, ?_, fun s hs => i64_bounds (hws s (List.mem_of_mem_take hs)), fun h => by cases h⟩
    intro k x hx
    obtain ⟨hk, rfl⟩ := List.getElem?_eq_some_iff.1 hx
    have hk' : k < len := by simpa [intVals, hz] using (Nat.lt_of_lt_of_le hk (by simp [intVals]; omega) : k < len)
    obtain ⟨b, off, spot⟩ := a
    have hspot : spot = none := by simpa [Addr.add] using World.cell?_spot (hcell 0 (by omega))
    subst hspot
    refine ⟨b, off, rfl, hlt (.cell b (off + 0)) (MemPlace.mem_row.2 ⟨0, by omega, by simp⟩), ?_⟩
    rw [← add_plain, hcell k (by omega)]
    have hk2 : k < zs.length := by omega
    simp [intVals, List.getD, hk2]
end Go.Proofs.YtglcailcdcpadaaGreatDoor
/-
  Rows that lie between two blocks: what turns elsewhere leaves them. Nothing here knows of the program.
-/
namespace Go.Proofs.YtglcailcdcpadaaGreatDoor
open Go Go.RowKit Go.WideShapes Go.Sort

/-- Only blocks from lo on, below hi, may have turned; new ones may be there. -/
structure Turn (lo hi : Nat) (W W' : World) : Prop where
  os : W'.os = W.os
  tape : W'.tape = W.tape
  output : W'.output = W.output
  size : W.heap.size ≤ W'.heap.size
  block : ∀ k, k < W.heap.size → (k < lo ∨ hi ≤ k) → W'.heap[k]? = W.heap[k]?
theorem Turn.refl (lo hi : Nat) (W : World) : Turn lo hi W W := ⟨rfl, rfl, rfl, Nat.le_refl _, fun _ _ _ => rfl⟩
theorem Turn.of_below {lo hi : Nat} {W W' : World} (h : Below W.heap.size W W') : Turn lo hi W W' := ⟨h.os, h.tape, h.output, h.size, fun k hk _ => h.block k hk⟩
theorem Turn.of_grown {lo hi : Nat} {W W' : World} {r : Option Nat} (h : W.grownBy W' r) (hr : ∀ k, r = some k → lo ≤ k ∧ k < hi) : Turn lo hi W W' :=
  ⟨h.os, h.tape, h.output, h.size, fun k hk hd => h.block k hk fun e => by have := hr k e.symm; omega⟩
theorem Turn.trans {lo hi : Nat} {W W' W'' : World} (h : Turn lo hi W W') (k : Turn lo hi W' W'') : Turn lo hi W W'' :=
  ⟨k.os.trans h.os, k.tape.trans h.tape, k.output.trans h.output, Nat.le_trans h.size k.size, fun j hj hd => (k.block j (Nat.lt_of_lt_of_le hj h.size) hd).trans (h.block j hj hd)⟩
theorem Turn.below {B lo hi : Nat} {w W W' : World} (h : Below B w W) (t : Turn lo hi W W') (hB : B ≤ lo) (hs : B ≤ W.heap.size) : Below B w W' :=
  ⟨t.os.trans h.os, t.tape.trans h.tape, t.output.trans h.output, Nat.le_trans h.size t.size, fun k hk => (t.block k (by omega) (.inl (by omega))).trans (h.block k hk)⟩
theorem Turn.mono {lo hi lo' hi' : Nat} {W W' : World} (h : Turn lo hi W W') (h1 : lo' ≤ lo) (h2 : hi ≤ hi') : Turn lo' hi' W W' :=
  ⟨h.os, h.tape, h.output, h.size, fun k hk hd => h.block k hk (by omega)⟩

/-- A row in blocks from lo on, below hi: it may be read. -/
def RowIn (lo hi : Nat) (W : World) (a : Option Addr) (xs : List Value) : Prop := hi ≤ W.heap.size ∧ ∀ k x, xs[k]? = some x → ∃ b o, a = some ⟨b, o, none⟩ ∧ lo ≤ b ∧ b < hi ∧ W.cell? ⟨b, o + k, none⟩ = some x
theorem RowIn.row {lo hi : Nat} {W : World} {a : Option Addr} {xs : List Value} (h : RowIn lo hi W a xs) : Row W W.heap.size a xs := fun k x hx => by
  obtain ⟨b, o, e, _, h2, hc⟩ := h.2 k x hx
  exact ⟨b, o, e, Nat.lt_of_lt_of_le h2 h.1, hc⟩
theorem RowIn.turn {lo hi lo' hi' : Nat} {W W' : World} {a : Option Addr} {xs : List Value} (h : RowIn lo hi W a xs) (t : Turn lo' hi' W W') (hd : hi ≤ lo' ∨ hi' ≤ lo) : RowIn lo hi W' a xs := by
  refine ⟨Nat.le_trans h.1 t.size, fun k x hx => ?_⟩
  obtain ⟨b, o, e, h1, h2, hc⟩ := h.2 k x hx
  exact ⟨b, o, e, h1, h2, (World.cell?_of_block (t.block b (Nat.lt_of_lt_of_le h2 h.1) (by omega))).trans hc⟩
theorem RowIn.below {lo hi : Nat} {W W' : World} {a : Option Addr} {xs : List Value} (h : RowIn lo hi W a xs) (hb : Below W.heap.size W W') : RowIn lo hi W' a xs := h.turn (lo' := hi) (hi' := hi) (Turn.of_below hb) (.inl (Nat.le_refl _))

theorem RowIn.grown {lo hi : Nat} {W W' : World} {a : Option Addr} {xs : List Value} {r : Option Nat} (h : RowIn lo hi W a xs) (hg : W.grownBy W' r) (hr : ∀ k, r = some k → k < lo ∨ hi ≤ k) : RowIn lo hi W' a xs := by
  refine ⟨Nat.le_trans h.1 hg.size, fun k x hx => ?_⟩
  obtain ⟨b, o, e, h1, h2, hc⟩ := h.2 k x hx
  exact ⟨b, o, e, h1, h2, (World.cell?_of_block (hg.block b (Nat.lt_of_lt_of_le h2 h.1) fun e => by have := hr b e.symm; omega)).trans hc⟩

/-- A row that a call made, in blocks from lo on, below hi: it may be written. -/
def OwnIn (lo hi : Nat) (W : World) (e : TypeId) (size : Nat) (v : Value) (n : Nat) (xs : List Value) : Prop := hi ≤ W.heap.size ∧ W.ownsRow lo e size v n xs ∧ ∀ k, v.ownBlock = some k → k < hi
section
variable {lo hi lo' hi' : Nat} {W W' : World} {e size n : Nat} {v : Value} {xs ys : List Value}
theorem OwnIn.of (h : W.ownsRow lo e size v n xs) : OwnIn lo W.heap.size W e size v n xs := ⟨Nat.le_refl _, h, fun k hk => (h.lt k hk).2⟩
theorem OwnIn.turn (h : OwnIn lo hi W e size v n xs) (t : Turn lo' hi' W W') (hd : hi ≤ lo' ∨ hi' ≤ lo) : OwnIn lo hi W' e size v n xs := by
  refine ⟨Nat.le_trans h.1 t.size, ⟨h.2.1.1, h.2.1.2.imp id ?_⟩, h.2.2⟩
  rintro ⟨g, cap, cur, rfl, hb, hgc, r⟩
  have hlt := (h.2.1.lt g rfl)
  have := h.2.2 g rfl
  exact ⟨g, cap, cur, rfl, hb, (t.block g hlt.2 (by omega)).trans hgc, r⟩
theorem OwnIn.below (h : OwnIn lo hi W e size v n xs) (hb : Below W.heap.size W W') : OwnIn lo hi W' e size v n xs := h.turn (lo' := hi) (hi' := hi) (Turn.of_below hb) (.inl (Nat.le_refl _))
theorem OwnIn.mono (h : OwnIn lo hi W e size v n xs) (h1 : lo' ≤ lo) (h2 : hi ≤ hi') (h3 : hi' ≤ W.heap.size) : OwnIn lo' hi' W e size v n xs := ⟨h3, own_base h.2.1 h1, fun k hk => Nat.lt_of_lt_of_le (h.2.2 k hk) h2⟩
theorem OwnIn.again (h : OwnIn lo hi W e size v n xs) (hg : hi ≤ W'.heap.size) (h' : W'.ownsRow lo e size v n ys) : OwnIn lo hi W' e size v n ys := ⟨hg, h', h.2.2⟩
theorem OwnIn.grows (h : OwnIn lo hi W e size v n xs) (hg : W.grownBy W' v.ownBlock) : Turn lo hi W W' := Turn.of_grown hg fun k hk => ⟨(h.2.1.lt k hk).1, h.2.2 k hk⟩
end
theorem OwnIn.rowIn {lo hi : Nat} {W : World} {e n : Nat} {a : Option Addr} {c : Nat} {size : Nat} {xs : List Value} (h : OwnIn lo hi W e size (.slice a n c) n xs) : RowIn lo hi W a xs := by
  refine ⟨h.1, fun k x hx => ?_⟩
  obtain ⟨hl, ho⟩ := h.2.1
  rcases ho with ⟨hv, hn⟩ | ⟨g, cap, cur, hv, hg0, hg, _⟩
  · rw [hn, Nat.zero_mul] at hl
    rw [List.eq_nil_of_length_eq_zero hl] at hx
    simp at hx
  · injection hv with ha _ _
    have hblk := h.2.2 g (by rw [ha]; rfl)
    refine ⟨g, 0, ha, hg0, hblk, ?_⟩
    have hc := h.2.1.cells (g := g) (by subst ha; rfl) k x hx
    rw [add_plain] at hc
    exact hc
theorem OwnIn.row {lo hi : Nat} {W : World} {e n : Nat} {a : Option Addr} {c : Nat} {size : Nat} {xs : List Value} (h : OwnIn lo hi W e size (.slice a n c) n xs) : Row W W.heap.size a xs := h.rowIn.row
theorem OwnIn.form {lo hi : Nat} {W : World} {e size n : Nat} {v : Value} {xs : List Value} (h : OwnIn lo hi W e size v n xs) : ∃ a c, v = .slice a n c ∧ n ≤ c := by
  rcases h.2.1.2 with ⟨rfl, rfl⟩ | ⟨g, cap, cur, rfl, _, _, hc, _⟩
  · exact ⟨_, _, rfl, Nat.le_refl _⟩
  · exact ⟨_, _, rfl, hc⟩

/-- It returned x; nothing old has turned. -/
def GaveX (x : Value) (w : World) (e : Ending) (w' : World) : Prop := e = .returned x ∧ Below w.heap.size w w'
/-- .. met in a region that draws its order. -/
theorem at_again {P : Program} {f : FuncId} {args : Array Value} {w : World} {d : Nat} {os : Array Obj} {v : Value} (h : Calls P f args (grow (redrawn w d) os) (GaveX v (grow (redrawn w d) os))) :
    Calls P f args (grow (redrawn w d) os) fun e w'' => e = .returned v ∧ ∃ p : Regrown, w'' = grow (redrawn w p.d) p.os := Calls.regrown_of h
theorem same_again {P : Program} {f : FuncId} {args : Array Value} {w : World} {d : Nat} {os : Array Obj} {v : Value} (h : Calls P f args (grow (redrawn w d) os) fun e w' => e = .returned v ∧ grow (redrawn w d) os = w') :
    Calls P f args (grow (redrawn w d) os) fun e w'' => e = .returned v ∧ ∃ p : Regrown, w'' = grow (redrawn w p.d) p.os :=
  Calls.regrown_of (h.mono fun _ _ ⟨he, hw⟩ => ⟨he, hw ▸ Below.refl _ _⟩)
theorem row_again {w : World} {a : Option Addr} {xs : List Value} (h : Row w w.heap.size a xs) (d : Nat) (os : Array Obj) : Row (grow (redrawn w d) os) (grow (redrawn w d) os).heap.size a xs :=
  (h.below (below_regrown w d os)).grow (below_regrown w d os).size
end Go.Proofs.YtglcailcdcpadaaGreatDoor
/-
  The law's comparison of two []int: true where both hold the same numbers.
-/
namespace Go.Proofs.YtglcailcdcpadaaGreatDoor
open Go Go.RowKit

def SameNumsEnd (r : Bool) (w : World) (e : Ending) (w' : World) : Prop := ∃ n, e = .returned (.bool r) ∧ w' = w.drewN n

end Go.Proofs.YtglcailcdcpadaaGreatDoor
/-
  The law writes marks into a []int of the program's answer, and looks later whether they are still there.
-/
namespace Go.Proofs.YtglcailcdcpadaaGreatDoor
open Go Go.RowKit

def numsFrom (k n : Nat) : List Int := (List.range n).map fun i => ((k + i : Nat) : Int)
theorem numsFrom_length (k n : Nat) : (numsFrom k n).length = n := by simp [numsFrom]
theorem numsFrom_next (k n : Nat) : numsFrom k (n + 1) = numsFrom k n ++ [((k + n : Nat) : Int)] := by simp [numsFrom, List.range_succ]
theorem numsFrom_at (k n j : Nat) (h : j < n) : (intVals (numsFrom k n))[j]? = some (.int .i64 ((k + j : Nat) : Int)) := by
  simp [intVals, numsFrom, h]
theorem set_take_mark {α : Type} (ys : List α) (k : Nat) (x : α) (h : k < ys.length) : (ys.set k x).take (k + 1) = ys.take k ++ [x] := by
  rw [List.take_succ_eq_append_getElem (by simpa using h)]
  simp [List.take_set_of_le]

def MarkedNumsEnd (base k n : Nat) (a : Option Addr) (cap : Nat) (w : World) (e : Ending) (w' : World) : Prop :=
  e = .returned (.int .i64 ((k + n : Nat) : Int)) ∧ w'.ownsRow base 3 1 (.slice a n cap) n (intVals (numsFrom k n)) ∧ w.grownBy w' (Value.slice a n cap).ownBlock

/-- All marks are there: the count behind the last. -/
def HeldNumsEnd (k n : Nat) (w : World) (e : Ending) (w' : World) : Prop := e = .returned (.int .i64 ((k + n : Nat) : Int)) ∧ w = w'

end Go.Proofs.YtglcailcdcpadaaGreatDoor
/-
  What a name is, the place of a string in a list, a list of variables, the positions of a number in a list.
-/
namespace Go.Proofs.YtglcailcdcpadaaGreatDoor
open Go Go.RowKit

def goodName (s : ByteArray) : Bool := decide ((∀ k (h : k < s.size), 97 ≤ (s[k]'h).toNat ∧ (s[k]'h).toNat ≤ 122) ∧ 1 ≤ s.size ∧ s.size ≤ 2)
theorem name_bad {s : ByteArray} {k : Nat} (h : k < s.size) (hb : (s[k]'h).toNat < 97 ∨ 122 < (s[k]'h).toNat) : goodName s = false := by
  simp only [goodName, decide_eq_false_iff_not]
  intro hh
  have := hh.1 k h
  omega
theorem name_long {s : ByteArray} (h : 2 < s.size) : goodName s = false := by
  simp only [goodName, decide_eq_false_iff_not]
  omega
theorem name_whole {s : ByteArray} (h : ∀ k (h : k < s.size), 97 ≤ (s[k]'h).toNat ∧ (s[k]'h).toNat ≤ 122) : goodName s = decide (1 ≤ s.size ∧ s.size ≤ 2) := by
  simp only [goodName]
  congr 1
  simp only [eq_iff_iff]
  exact ⟨fun hh => hh.2, fun hh => ⟨h, hh⟩⟩

def placeFrom (s : ByteArray) : Nat → List ByteArray → Int
  | _, [] => -1
  | k, x :: xs => if (x.toList == s.toList) = true then (k : Int) else placeFrom s (k + 1) xs
def place (ss : List ByteArray) (s : ByteArray) : Int := placeFrom s 0 ss
theorem place_hit {ss : List ByteArray} {s : ByteArray} {k : Nat} (h : k < ss.length) (e : (ss[k].toList == s.toList) = true) : placeFrom s k (ss.drop k) = (k : Int) := by
  rw [List.drop_eq_getElem_cons h, placeFrom, if_pos e]
theorem place_miss {ss : List ByteArray} {s : ByteArray} {k : Nat} (h : k < ss.length) (e : (ss[k].toList == s.toList) = false) : placeFrom s k (ss.drop k) = placeFrom s (k + 1) (ss.drop (k + 1)) := by
  rw [List.drop_eq_getElem_cons h, placeFrom, if_neg (by simp [e])]
theorem place_end {ss : List ByteArray} {s : ByteArray} {k : Nat} (h : ss.length ≤ k) : placeFrom s k (ss.drop k) = -1 := by
  rw [List.drop_eq_nil_of_le h, placeFrom]
theorem placeFrom_bounds (s : ByteArray) : ∀ (ss : List ByteArray) (k : Nat), -1 ≤ placeFrom s k ss ∧ placeFrom s k ss < (k : Int) + ss.length + 1
  | [], k => by simp [placeFrom]; omega
  | x :: xs, k => by
    have := placeFrom_bounds s xs (k + 1)
    simp only [placeFrom, List.length_cons]
    split <;> omega
theorem place_bounds (ss : List ByteArray) (s : ByteArray) : -1 ≤ place ss s ∧ place ss s ≤ ss.length := by
  have := placeFrom_bounds s ss 0
  simp only [place]
  omega

def goodVars (ss : List ByteArray) : Bool := decide ((∀ k (h : k < ss.length), goodName ss[k] = true ∧ place ss ss[k] = (k : Int)) ∧ 1 ≤ ss.length ∧ ss.length ≤ 4)
theorem vars_bad {ss : List ByteArray} {k : Nat} (h : k < ss.length) (hb : ¬ (goodName ss[k] = true ∧ place ss ss[k] = (k : Int))) : goodVars ss = false := by
  simp only [goodVars, decide_eq_false_iff_not]
  exact fun hh => hb (hh.1 k h)
theorem vars_length {ss : List ByteArray} (h : ¬ (1 ≤ ss.length ∧ ss.length ≤ 4)) : goodVars ss = false := by
  simp only [goodVars, decide_eq_false_iff_not]
  exact fun hh => h hh.2
theorem vars_whole {ss : List ByteArray} (h : ∀ k (h : k < ss.length), goodName ss[k] = true ∧ place ss ss[k] = (k : Int)) : goodVars ss = decide (1 ≤ ss.length ∧ ss.length ≤ 4) := by
  simp only [goodVars]
  congr 1
  simp only [eq_iff_iff]
  exact ⟨fun hh => hh.2, fun hh => ⟨h, hh⟩⟩
theorem vars_at {ss : List ByteArray} (h : goodVars ss = true) {k : Nat} (hk : k < ss.length) : goodName ss[k] = true ∧ place ss ss[k] = (k : Int) := (of_decide_eq_true h).1 k hk

/-- Where a number stands in a list. -/
def posFrom (n : Int) : Nat → List Int → List Int
  | _, [] => []
  | k, z :: zs => if z = n then (k : Int) :: posFrom n (k + 1) zs else posFrom n (k + 1) zs
theorem pos_hit {zs : List Int} {n : Int} {k : Nat} (h : k < zs.length) (e : zs[k] = n) : posFrom n k (zs.drop k) = (k : Int) :: posFrom n (k + 1) (zs.drop (k + 1)) := by
  rw [List.drop_eq_getElem_cons h, posFrom, if_pos e]
theorem pos_miss {zs : List Int} {n : Int} {k : Nat} (h : k < zs.length) (e : zs[k] ≠ n) : posFrom n k (zs.drop k) = posFrom n (k + 1) (zs.drop (k + 1)) := by
  rw [List.drop_eq_getElem_cons h, posFrom, if_neg e]
theorem pos_end {zs : List Int} {n : Int} {k : Nat} (h : zs.length ≤ k) : posFrom n k (zs.drop k) = [] := by
  rw [List.drop_eq_nil_of_le h, posFrom]
theorem posFrom_length (n : Int) : ∀ (zs : List Int) (k : Nat), (posFrom n k zs).length ≤ zs.length
  | [], _ => by simp [posFrom]
  | z :: zs, k => by
    have := posFrom_length n zs (k + 1)
    simp only [posFrom, List.length_cons]
    split
    · simp; omega
    · omega
theorem posFrom_mem (n : Int) : ∀ (zs : List Int) (k : Nat) (z : Int), z ∈ posFrom n k zs → ∃ j : Nat, z = ((k + j : Nat) : Int) ∧ ∃ h : j < zs.length, zs[j] = n
  | [], _, _, h => by simp [posFrom] at h
  | x :: xs, k, z, h => by
    have hrec : z ∈ posFrom n (k + 1) xs → ∃ j : Nat, z = ((k + j : Nat) : Int) ∧ ∃ h : j < (x :: xs).length, (x :: xs)[j] = n := by
      intro h
      obtain ⟨j, e, hj, hn⟩ := posFrom_mem n xs (k + 1) z h
      exact ⟨j + 1, by rw [e]; congr 1; omega, by simp; omega, by simpa using hn⟩
    simp only [posFrom] at h
    split at h
    · rename_i hx
      rcases List.mem_cons.1 h with e | h
      · exact ⟨0, by simpa using e, by simp, by simpa using hx⟩
      · exact hrec h
    · exact hrec h
theorem posFrom_lt (n : Int) : ∀ (zs : List Int) (k : Nat), (posFrom n k zs).Pairwise (· < ·)
  | [], _ => by simp [posFrom]
  | x :: xs, k => by
    have h := posFrom_lt n xs (k + 1)
    simp only [posFrom]
    split
    · refine List.pairwise_cons.2 ⟨fun z hz => ?_, h⟩
      obtain ⟨j, e, _⟩ := posFrom_mem n xs (k + 1) z hz
      omega
    · exact h
end Go.Proofs.YtglcailcdcpadaaGreatDoor
/-
  The law's own copy of a []int: a new row with the same numbers.
-/
namespace Go.Proofs.YtglcailcdcpadaaGreatDoor
open Go Go.RowKit

theorem intInfo : (Tryz.prog.info? 3).map (fun i => (i.zero, i.size, i.bytes)) = some (some (.int .i64 0), 1, 8) := by kernel_rfl

/-- A new slice at the heap's end that holds the numbers; nothing old has turned. -/
def CopyNumsEnd (ns : List Int) (w : World) (e : Ending) (w' : World) : Prop :=
  e = .returned (.slice (some ⟨w.heap.size, 0, none⟩) ns.length ns.length) ∧ w'.ownsRow w.heap.size 3 1 (.slice (some ⟨w.heap.size, 0, none⟩) ns.length ns.length) ns.length (intVals ns) ∧ Below w.heap.size w w'

theorem set_take_num {α : Type} (ys : List α) (k : Nat) (x : α) (h : k < ys.length) : (ys.set k x).take (k + 1) = ys.take k ++ [x] := by
  rw [List.take_succ_eq_append_getElem (by simpa using h)]
  simp [List.take_set_of_le]

end Go.Proofs.YtglcailcdcpadaaGreatDoor
/-
  Heaps as values: two rows of numbers; an argument that is a heap, opened; the law's size guard, its copy, its comparison, its marks.
-/
namespace Go.Proofs.YtglcailcdcpadaaGreatDoor
open Go Go.Joins Go.ChangeShapes Go.WideShapes Go.ChangeAt Go.RowKit Go.Deep

abbrev heV (a : Option Addr) (n ca : Nat) (b : Option Addr) (m cb : Nat) : Value := .agg #[.slice a n ca, .slice b m cb]
theorem cellsB {W w1 : World} (hb : Below W.heap.size W w1) : (∀ b o, b < W.heap.size → w1.cell? ⟨b, o, none⟩ = W.cell? ⟨b, o, none⟩) ∧ (∀ b o, b < W.heap.size → w1.frozen? ⟨b, o, none⟩ = W.frozen? ⟨b, o, none⟩) :=
  ⟨fun b o h => hb.cell (p := ⟨b, o, none⟩) h, fun b o h => hb.frozen (p := ⟨b, o, none⟩) h⟩

/-- The two cells of a box. -/
abbrev Box2 (W : World) (g : Nat) (x y : Value) : Prop := W.cell? ⟨g, 0, none⟩ = some x ∧ W.cell? ⟨g, 1, none⟩ = some y
theorem Box2.keep {W W' : World} {g : Nat} {x y : Value} (h : Box2 W g x y) (hg : g < W.heap.size) (hb : Below W.heap.size W W') : Box2 W' g x y :=
  ⟨(hb.cell (p := ⟨g, 0, none⟩) hg).trans h.1, (hb.cell (p := ⟨g, 1, none⟩) hg).trans h.2⟩
theorem Box2.turn {lo hi : Nat} {W W' : World} {g : Nat} {x y : Value} (h : Box2 W g x y) (hg : g < W.heap.size) (t : Turn lo hi W W') (hd : g < lo ∨ hi ≤ g) : Box2 W' g x y :=
  ⟨(World.cell?_of_block (t.block g hg hd)).trans h.1, (World.cell?_of_block (t.block g hg hd)).trans h.2⟩
theorem one_box2 (w : World) (u0 u1 : Value) (t : TypeId) : ∃ W0, w.alloc (.cells #[u0, u1] t) = W0 ∧ Below w.heap.size w W0 ∧ w.heap.size < W0.heap.size ∧ Box2 W0 w.heap.size u0 u1 :=
  ⟨_, rfl, (Below.refl _ _).alloc (Nat.le_refl _) _, by simp, by simp [Box2, go_sem]⟩
theorem two_box2 (w : World) (u0 u1 v0 v1 : Value) (t t' : TypeId) : ∃ W0, (w.alloc (.cells #[u0, u1] t)).alloc (.cells #[v0, v1] t') = W0 ∧ Below w.heap.size w W0 ∧ w.heap.size + 1 < W0.heap.size ∧ Box2 W0 w.heap.size u0 u1 ∧ Box2 W0 (w.heap.size + 1) v0 v1 :=
  ⟨_, rfl, ((Below.refl _ _).alloc (Nat.le_refl _) _).alloc (by simp) _, by simp, by simp [Box2, go_sem], by simp [Box2, go_sem]⟩

/-- The rows of a heap: they may be read. -/
structure HeapAt (W : World) (a b : Option Addr) (vs zs : List Int) : Prop where
  v : Row W W.heap.size a (intVals vs)
  z : Row W W.heap.size b (intVals zs)
theorem HeapAt.again {W : World} {a b : Option Addr} {vs zs : List Int} (h : HeapAt W a b vs zs) (d : Nat) (os : Array Obj) : HeapAt (Go.Sort.grow (redrawn W d) os) a b vs zs := ⟨row_again h.v d os, row_again h.z d os⟩
theorem HeapAt.below {W W' : World} {B : Nat} {a b : Option Addr} {vs zs : List Int} (h : HeapAt W a b vs zs) (hb : Below B W W') (hB : W.heap.size ≤ B) : HeapAt W' a b vs zs :=
  ⟨(h.v.below (hb.mono hB)).grow hb.size, (h.z.below (hb.mono hB)).grow hb.size⟩
/-- A heap that a call made, in blocks from lo on, below hi: its rows may be written, and lie apart. -/
structure HeapIn (lo hi : Nat) (W : World) (a : Option Addr) (ca : Nat) (b : Option Addr) (cb : Nat) (vs zs : List Value) : Prop where
  v : OwnIn lo hi W 3 1 (.slice a vs.length ca) vs.length vs
  z : OwnIn lo hi W 3 1 (.slice b zs.length cb) zs.length zs
  apart : ∀ j, (Value.slice a vs.length ca).ownBlock = some j → (Value.slice b zs.length cb).ownBlock ≠ some j
section
variable {lo hi lo' hi' : Nat} {W W' : World} {a b : Option Addr} {ca cb : Nat}
theorem HeapIn.turn {vs zs : List Value} (h : HeapIn lo hi W a ca b cb vs zs) (t : Turn lo' hi' W W') (hd : hi ≤ lo' ∨ hi' ≤ lo) : HeapIn lo hi W' a ca b cb vs zs := ⟨h.v.turn t hd, h.z.turn t hd, h.apart⟩
theorem HeapIn.below {vs zs : List Value} (h : HeapIn lo hi W a ca b cb vs zs) (hb : Below W.heap.size W W') : HeapIn lo hi W' a ca b cb vs zs := ⟨h.v.below hb, h.z.below hb, h.apart⟩
theorem HeapIn.mono {vs zs : List Value} (h : HeapIn lo hi W a ca b cb vs zs) (h1 : lo' ≤ lo) (h2 : hi ≤ hi') (h3 : hi' ≤ W.heap.size) : HeapIn lo' hi' W a ca b cb vs zs := ⟨h.v.mono h1 h2 h3, h.z.mono h1 h2 h3, h.apart⟩
theorem HeapIn.rows {vs zs : List Int} (h : HeapIn lo hi W a ca b cb (intVals vs) (intVals zs)) : HeapAt W a b vs zs := ⟨h.v.row, h.z.row⟩
end

/-- A []int that lies in a struct, opened. -/
theorem open_nums_in {H : Type} {enc : TypeId × Value → H} {P : Program} {W : World} {t e : TypeId} {v : Value} {n : Nat} {y : DataW H × List MemPlace}
    (ht : P.underlying t = some (.slice e)) (he : P.underlying e = some (.int .i64)) (hc : P.cellsOf e = 1) (hlt : ∀ x ∈ y.2, x.block < W.heap.size)
    (h : DataW.trod enc P W 0 (fun _ => true) true n t [v] = some y) :
    ∃ (a : Option Addr) (cap : Nat) (ns : List Int), v = .slice a ns.length cap ∧ ns.length ≤ cap ∧ ns.length ≤ maxLen ∧ Row W W.heap.size a (intVals ns) ∧ (∀ n ∈ ns, -9223372036854775808 ≤ n ∧ n ≤ 9223372036854775807) := by
  rcases open_ints ht he hc h with ⟨hcs, hx⟩ | ⟨a, len, cap, ss, hcs, _, hl, hm, hz, hx, hcell, hws⟩
  · simp only [List.cons.injEq, and_true] at hcs
    subst hcs
    exact ⟨none, 0, [], rfl, Nat.le_refl _, Nat.zero_le _, Row.nil_, fun s hs => by simp at hs⟩
  · simp only [List.cons.injEq, and_true] at hcs
    subst hcs
    subst hx
    simp only [if_true] at hz
    have hlen : (ss.take len).length = len := by simp; omega
    refine ⟨some a, cap, ss.take len, by rw [hlen], by omega, by omega, ?_, fun s hs => i64_bounds (hws s (List.mem_of_mem_take hs))⟩
    intro k x hx
    obtain ⟨hk, rfl⟩ := List.getElem?_eq_some_iff.1 hx
    have hk' : k < len := by simpa [intVals, hz] using (Nat.lt_of_lt_of_le hk (by simp [intVals]; omega) : k < len)
    obtain ⟨b, off, spot⟩ := a
    have hspot : spot = none := by simpa [Addr.add] using World.cell?_spot (hcell 0 (by omega))
    subst hspot
    refine ⟨b, off, rfl, hlt (.cell b (off + 0)) (MemPlace.mem_row.2 ⟨0, by omega, by simp⟩), ?_⟩
    rw [← add_plain, hcell k (by omega)]
    have hk2 : k < ss.length := by omega
    simp [intVals, List.getD, hk2]

/-- What an argument's heap keeps. -/
structure HeapOk (W : World) (a b : Option Addr) (vs zs : List Int) : Prop where
  at_ : HeapAt W a b vs zs
  lv : vs.length ≤ maxLen
  lz : zs.length ≤ maxLen
  bv : ∀ n ∈ vs, -9223372036854775808 ≤ n ∧ n ≤ 9223372036854775807
  bz : ∀ n ∈ zs, -9223372036854775808 ≤ n ∧ n ≤ 9223372036854775807
/-- An argument that is a heap, opened. -/
theorem open_heap {H : Type} {enc : TypeId × Value → H} {P : Program} {W : World} {r : Reach} {b0 : Nat} {t : TypeId} {q0 q1 : Field} {v : Value} {d : DataW H} {p : List MemPlace} {e : TypeId}
    (hp : P.underlying t = some (.struct #[q0, q1])) (hone : oneCellFields P #[q0, q1] = true) (hCp : P.cellsOf t = 2)
    (hq0 : P.underlying q0.type = some (.slice e)) (hq1 : P.underlying q1.type = some (.slice e)) (he : P.underlying e = some (.int .i64)) (hce : P.cellsOf e = 1) (hlt : ∀ x ∈ p, x.block < W.heap.size)
    (hv : Value.okWide P W r b0 t v) (h : DataW.Trod enc P W 0 (fun _ => true) true t v d p) :
    ∃ (a : Option Addr) (ca : Nat) (vs : List Int) (b : Option Addr) (cb : Nat) (zs : List Int), v = heV a vs.length ca b zs.length cb ∧ HeapOk W a b vs zs := by
  obtain ⟨v0, v1, y0, y1, n, rfl, _, rfl, e0, e1⟩ := open_agg2 hp hone hCp hv h
  obtain ⟨a, ca, vs, rfl, _, l0, r0, w0⟩ := open_nums_in hq0 he hce (fun x hx => hlt x (by simp [hx])) e0
  obtain ⟨b, cb, zs, rfl, _, l1, r1, w1⟩ := open_nums_in hq1 he hce (fun x hx => hlt x (by simp [hx])) e1
  exact ⟨a, ca, vs, b, cb, zs, rfl, ⟨r0, r1⟩, l0, l1, w0, w1⟩

/-- A copy of a heap: two new rows. -/
def CopyHeap (vs zs : List Int) (w : World) (e : Ending) (w' : World) : Prop :=
  ∃ a b, e = .returned (heV a vs.length vs.length b zs.length zs.length) ∧ HeapIn w.heap.size w'.heap.size w' a vs.length b zs.length (intVals vs) (intVals zs) ∧ Below w.heap.size w w'
/-- Marks laid into a heap. -/
def MarkedHeap (lo hi k n m : Nat) (a b : Option Addr) (ca cb : Nat) (w : World) (e : Ending) (w' : World) : Prop :=
  e = .returned (.int .i64 ((k + n + m : Nat) : Int)) ∧ HeapIn lo hi w' a ca b cb (intVals (numsFrom k n)) (intVals (numsFrom (k + n) m)) ∧ Turn lo hi w w'
theorem HeapIn.marks {lo hi k n m : Nat} {W : World} {a b : Option Addr} {ca cb : Nat} (h : HeapIn lo hi W a ca b cb (intVals (numsFrom k n)) (intVals (numsFrom (k + n) m))) : HeapAt W a b (numsFrom k n) (numsFrom (k + n) m) := h.rows
end Go.Proofs.YtglcailcdcpadaaGreatDoor
/-
  Positions of a number in a list: whether there are any. Nothing here knows of the program.
-/
namespace Go.Proofs.YtglcailcdcpadaaGreatDoor
open Go Go.RowKit

theorem posFrom_none {n : Int} : ∀ {zs : List Int} {k : Nat}, n ∉ zs → posFrom n k zs = []
  | [], _, _ => rfl
  | z :: zs, k, h => by
    simp only [List.mem_cons, not_or] at h
    rw [posFrom, if_neg (Ne.symm h.1)]
    exact posFrom_none h.2
theorem posFrom_some {n : Int} : ∀ {zs : List Int} {k : Nat}, n ∈ zs → ∃ (j : Nat) (r : List Int), posFrom n k zs = ((k + j : Nat) : Int) :: r ∧ ∃ h : j < zs.length, zs[j] = n
  | [], _, h => by simp at h
  | z :: zs, k, h => by
    by_cases e : z = n
    · exact ⟨0, _, by rw [posFrom, if_pos e]; rfl, by simp, by simpa using e⟩
    · obtain ⟨j, r, h1, h2, h3⟩ := posFrom_some (zs := zs) (k := k + 1) (by rcases List.mem_cons.1 h with h | h; exact absurd h.symm e; exact h)
      exact ⟨j + 1, r, by rw [posFrom, if_neg e, h1, show k + 1 + j = k + (j + 1) by omega], by simp; omega, by simpa using h3⟩
theorem posFrom_pos (n : Int) (zs : List Int) : decide (0 < (posFrom n 0 zs).length) = decide (n ∈ zs) := by
  congr 1
  simp only [eq_iff_iff]
  constructor
  · intro h
    refine Classical.byContradiction fun hno => ?_
    rw [posFrom_none hno] at h
    simp at h
  · intro h
    obtain ⟨j, r, e, _⟩ := posFrom_some (k := 0) h
    rw [e]
    simp
end Go.Proofs.YtglcailcdcpadaaGreatDoor
