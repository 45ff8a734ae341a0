/-
  Several texts of one proof in one file, in the order in which they build.
-/
import Derived.WalkKit
import Derived.ProofKit
import Derived.OpenShut
import Derived.Carry
import Derived.MapKept
import Derived.Laws.StructEq
import Derived.SliceStrings
import Derived.Deep.Draws
import Derived.Deep.QuietTactic
import Derived.BigQuiet
import Derived.Deep.DeepHandedRow
import Derived.Lib.Hide
import Derived.Lib.AppendStr
import Derived.Test.YtpmmjaceehlpiaaGreatDoorChecked
/-
  Words that the proofs of this seat share: a row of cells behind a slice (nil let in), a law's last step, sums of lengths. Nothing here knows of the program.
-/
namespace Go.Proofs.YtpmmjaceehlpiaaGreatDoor
open Go Go.ChangeShapes Go.WideShapes Go.ChangeAt Go.RowKit

/-- The cells from an address on, all below block B: with no cell asked, any address will do. -/
def Row (w : World) (B : Nat) (a : Option Addr) (xs : List Value) : Prop :=
  ∀ k x, xs[k]? = some x → ∃ b o, a = some ⟨b, o, none⟩ ∧ b < B ∧ w.cell? ⟨b, o + k, none⟩ = some x

theorem Row.keeps {w w' : World} {B : Nat} {a : Option Addr} {xs : List Value} (h : Row w B a xs) (hk : ∀ p : Addr, p.block < B → w'.cell? p = w.cell? p) : Row w' B a xs := by
  intro k x hx
  obtain ⟨b, o, e, hb, hc⟩ := h k x hx
  exact ⟨b, o, e, hb, (hk _ hb).trans hc⟩
theorem Row.below {w w' : World} {B : Nat} {a : Option Addr} {xs : List Value} (h : Row w B a xs) (hb : Below B w w') : Row w' B a xs := h.keeps fun _ hp => hb.cell hp
theorem Row.grow {w : World} {B B' : Nat} {a : Option Addr} {xs : List Value} (h : Row w B a xs) (hB : B ≤ B') : Row w B' a xs := by
  intro k x hx
  obtain ⟨b, o, e, hb, hc⟩ := h k x hx
  exact ⟨b, o, e, by omega, hc⟩
theorem Row.nil_ {w : World} {B : Nat} {a : Option Addr} : Row w B a [] := fun k x hx => by simp at hx
theorem Row.owned {w : World} {base : Nat} {e : TypeId} {n : Nat} {a : Option Addr} {c : Nat} {xs : List Value} (h : w.ownsRow base e 1 (.slice a n c) n xs) : Row w w.heap.size a xs := by
  intro k x hx
  rcases h.2 with ⟨hv, hn⟩ | ⟨g, cap, cur, hv, _, hg, _⟩
  · have hl := h.1
    rw [hn] at hl
    have : xs = [] := List.eq_nil_of_length_eq_zero (by simpa using hl)
    rw [this] at hx
    simp at hx
  · injection hv with ha _ _
    refine ⟨g, 0, ha, ?_, ?_⟩
    · rcases Nat.lt_or_ge g w.heap.size with h1 | h1
      · exact h1
      · rw [Array.getElem?_eq_none h1] at hg; cases hg
    · have hc := h.cells (g := g) (by subst ha; rfl) k x hx
      rw [add_plain] at hc
      exact hc

/-- Behind an append to a row of the call's own: what lies below is as it was. -/
theorem own_cell {wr w1 : World} {B e m : Nat} {v : Value} {xs : List Value} {p : Addr} {x : Value} (hown : wr.ownsRow B e 1 v m xs) (hg : wr.grownBy w1 v.ownBlock) (hp : p.block < B) (hc : wr.cell? p = some x) : w1.cell? p = some x :=
  hg.cell hc fun h => by have := (hown.lt _ h.symm).1; omega
theorem own_below {w wr w1 : World} {B e m : Nat} {v : Value} {xs : List Value} (hown : wr.ownsRow B e 1 v m xs) (hg : wr.grownBy w1 v.ownBlock) (hB : B ≤ wr.heap.size) (hb : Below B w wr) : Below B w w1 :=
  hb.grown hg hB fun k hk => (hown.lt k hk).1

theorem own_base {w : World} {base base' e size n : Nat} {v : Value} {xs : List Value} (h : w.ownsRow base e size v n xs) (hb : base' ≤ base) : w.ownsRow base' e size v n xs :=
  ⟨h.1, h.2.imp id fun ⟨g, cap, cur, a, b, r⟩ => ⟨g, cap, cur, a, Nat.le_trans hb b, r⟩⟩
theorem own_keeps {w w' : World} {base e size n : Nat} {v : Value} {xs : List Value} (h : w.ownsRow base e size v n xs) (hb : Below w.heap.size w w') : w'.ownsRow base e size v n xs :=
  h.kept (row := none) ⟨hb.os, hb.tape, hb.output, hb.size, fun k hk _ => hb.block k hk⟩ (by cases hv : v.ownBlock <;> simp)
theorem below_draws {B : Nat} {a w : World} (h : Below B a w) (n : Nat) : Below B a (w.drewN n) := ⟨h.os, h.tape, h.output, h.size, h.block⟩

/-- Every argument reads behind the call as it did before, if nothing old has turned. -/
theorem trodAll_stay {H : Type} {enc : TypeId × Value → H} {P : Program} (hl : laidOutB P = true) {W W' : World} (hb : Below W.heap.size W W') :
    ∀ {ts : List TypeId} {vs : List Value} {ds : List (DataW H)} {ps : List MemPlace}, (ts.all fun t => P.readableRec t && decide (t < P.types.size)) = true → (∀ x ∈ ps, x.block < W.heap.size) →
      DataW.TrodAll enc P W 0 (fun _ => true) true ts vs ds ps → DataW.TrodAll enc P W' 0 (fun b => decide (b < W.heap.size)) true ts vs ds ps
  | [], [], [], _, _, _, h => h
  | [], [], _ :: _, _, _, _, h => h.elim
  | [], _ :: _, _, _, _, _, h => h.elim
  | _ :: _, [], _, _, _, _, h => h.elim
  | _ :: _, _ :: _, [], _, _, _, h => h.elim
  | t :: ts, v :: vs, d :: ds, ps, hr, hlt, h => by
    obtain ⟨p, q, h0, hs, rfl⟩ := h
    simp only [List.all_cons, Bool.and_eq_true, decide_eq_true_eq] at hr
    exact ⟨p, q, Below.trod hl hr.1.1 hr.1.2 h0 hb (fun x hx => hlt x (by simp [hx])), trodAll_stay hl hb hr.2 (fun x hx => hlt x (by simp [hx])) hs, rfl⟩

/-- A law's last step: it returned true, and nothing that was there has turned. -/
theorem law_post {H : Type} {enc : TypeId × Value → H} {P : Program} (hl : laidOutB P = true) {f : Func} {s : ChangeSpec} {W W' : World} {args : Array Value} {ds gs : List (DataW H)} {before : List MemPlace} {bt : TypeId}
    (hvars : s.vars = []) (hp : (f.params.toList.all fun t => P.readableRec t && decide (t < P.types.size)) = true) (hres : f.resultTypes = #[bt]) (hbt : P.underlying bt = some .bool)
    (hW : DataW.Whole enc P f.params.toList s.vars false W args.toList ds gs before) (hfn : s.fn H ds = { results := [.lit (.bool true)], args := ds }) (hb : Below W.heap.size W W') :
    s.post enc P f false true false false W args (.bool true) W' := by
  have hW' := hW
  obtain ⟨p, q, hA, hV, rfl, _, _⟩ := hW
  rw [hvars] at hV
  obtain ⟨rfl, rfl⟩ := trodVars_none hV
  simp only [List.append_nil] at hW'
  have hlt : ∀ x ∈ p, x.block < W.heap.size := fun x hx => by simpa using hW'.lt x hx
  refine ⟨ds, [], p, [], p, [], hW', ?_, ?_, ?_, hb.frame _, fun h => by cases h⟩
  · rw [List.append_nil, hfn, hres]
    exact trodAll_mk1 (shut_bool hbt true)
  · rw [List.append_nil, hfn]
    exact trodAll_stay hl hb hp hlt hA
  · rw [hvars, List.append_nil, hfn]
    rfl

theorem str_ne_false {a b : ByteArray} (h : a = b) : (a != b) = false := by
  rw [bne, (MapKept.bytes_beq a b).2 h]
  rfl
theorem str_ne_true {a b : ByteArray} (h : a ≠ b) : (a != b) = true := by
  rw [bne]
  cases hh : (a == b) with
  | false => rfl
  | true => exact absurd ((MapKept.bytes_beq a b).1 hh) h
theorem bytes_of_list {l : List UInt8} {s : ByteArray} (h : l = s.data.toList) : (⟨l.toArray⟩ : ByteArray) = s := by
  subst h
  rfl
theorem list_of_bytes {l : List UInt8} {s : ByteArray} (h : (⟨l.toArray⟩ : ByteArray) = s) : l = s.data.toList := by
  subst h
  rfl

theorem lists_eq {l : List UInt8} {s : ByteArray} (h : l = s.data.toList) : (l == s.toList) = true := by
  rw [ByteArray.toList_eq, h]
  simp
theorem lists_ne {l : List UInt8} {s : ByteArray} (h : ¬ l = s.data.toList) : (l == s.toList) = false := by
  rw [ByteArray.toList_eq]
  simpa using h

theorem i64_bounds {n : Int} (h : (Lit.int .i64 n).wf = true) : -9223372036854775808 ≤ n ∧ n ≤ 9223372036854775807 := by
  simp [Lit.wf, IntKind.min, IntKind.max, IntKind.signed, IntKind.bits] at h
  omega

theorem u8_bounds {n : Int} (h : (Lit.int .u8 n).wf = true) : 0 ≤ n ∧ n ≤ 255 := by
  simp [Lit.wf, IntKind.min, IntKind.max, IntKind.signed, IntKind.bits] at h
  omega

/-- Strings as cells; the sum of their lengths. -/
def strVals (ss : List ByteArray) : List Value := ss.map Value.string
theorem strVals_snoc (l : List ByteArray) (x : ByteArray) : strVals (l ++ [x]) = strVals l ++ [.string x] := by simp [strVals]
def total (ss : List ByteArray) : Nat := (ss.map ByteArray.size).sum
theorem total_append (a b : List ByteArray) : total (a ++ b) = total a + total b := by simp [total]
theorem total_one (s : ByteArray) : total [s] = s.size := by simp [total]
theorem take_next {α : Type} (l : List α) (k : Nat) (h : k < l.length) : l.take (k + 1) = l.take k ++ [l[k]] := by
  rw [List.take_succ_eq_append_getElem h]
theorem total_take_next (ss : List ByteArray) (k : Nat) (h : k < ss.length) : total (ss.take (k + 1)) = total (ss.take k) + ss[k].size := by
  rw [take_next ss k h, total_append, total_one]

/-- A []string argument, opened: its strings, their cells, their bounds. -/
theorem open_strs {H : Type} {enc : TypeId × Value → H} {P : Program} {W : World} {t e : TypeId} {v : Value} {d : DataW H} {ps : List MemPlace} {base : Nat}
    (ht : P.underlying t = some (.slice e)) (he : P.underlying e = some .string) (hc : P.cellsOf e = 1) (hlt : ∀ x ∈ ps, x.block < W.heap.size)
    (hval : Value.okWide P W .any base t v) (h : DataW.Trod enc P W 0 (fun _ => true) true t v d ps) :
    ∃ (a : Option Addr) (cap : Nat) (ss : List ByteArray), v = .slice a ss.length cap ∧ ss.length ≤ cap ∧ ss.length ≤ maxLen ∧ Row W W.heap.size a (strVals ss) ∧ (∀ s ∈ ss, s.size ≤ maxLen) ∧
      (d = .nil ∨ ∃ sp, d = .slice (strs ss) sp) ∧ (a = none → ss = [] ∧ cap = 0) := by
  obtain ⟨a0, len, cap, rfl⟩ := okWide_slice ht hval
  obtain ⟨fuel, hf⟩ := h
  rcases open_strings ht he hc hf with ⟨hcs, hx⟩ | ⟨a, len', cap', ss, hcs, _, hl, hm, hz, hx, hcell, hws⟩
  · simp [Value.cells] at hcs
    obtain ⟨rfl, rfl, rfl⟩ := hcs
    simp only [Prod.mk.injEq] at hx
    exact ⟨none, 0, [], rfl, Nat.le_refl _, Nat.zero_le _, Row.nil_, (fun s hs => by simp at hs), .inl hx.1, fun _ => ⟨rfl, rfl⟩⟩
  · simp [Value.cells] at hcs
    obtain ⟨rfl, rfl, rfl⟩ := hcs
    simp only [Prod.mk.injEq] at hx
    obtain ⟨rfl, rfl⟩ := hx
    simp only [if_true] at hz
    have hlen : (ss.take len).length = len := by simp; omega
    refine ⟨some a, cap, ss.take len, by rw [hlen], by omega, by omega, ?_, fun s hs => hws s (List.mem_of_mem_take hs), .inr ⟨_, rfl⟩, fun h => by cases h⟩
    intro k x hx
    obtain ⟨hk, rfl⟩ := List.getElem?_eq_some_iff.1 hx
    have hk' : k < len := by simpa [strVals, hz] using (Nat.lt_of_lt_of_le hk (by simp [strVals]; omega) : k < len)
    obtain ⟨b, off, spot⟩ := a
    have hspot : spot = none := by simpa [Addr.add] using World.cell?_spot (hcell 0 (by omega))
    subst hspot
    refine ⟨b, off, rfl, hlt (.cell b (off + 0)) (MemPlace.mem_row.2 ⟨0, by omega, by simp⟩), ?_⟩
    rw [← add_plain, hcell k (by omega)]
    have hk2 : k < ss.length := by omega
    simp [strVals, List.getD, hk2]
end Go.Proofs.YtpmmjaceehlpiaaGreatDoor
/-
  Rows that lie apart: the law's copy of its argument, the program's answer, the model's answer: each turns alone. Nothing here knows of the program.
-/
namespace Go.Proofs.YtpmmjaceehlpiaaGreatDoor
open Go Go.RowKit

theorem own_other {w w' : World} {base e size n : Nat} {v : Value} {xs : List Value} {row : Option Nat} (h : w.ownsRow base e size v n xs) (hg : w.grownBy w' row) (hne : ∀ k, v.ownBlock = some k → some k ≠ row) : w'.ownsRow base e size v n xs := by
  refine ⟨h.1, h.2.imp id ?_⟩
  rintro ⟨g, cap, cur, rfl, hb, hgc, r⟩
  refine ⟨g, cap, cur, rfl, hb, ?_, r⟩
  have hlt : g < w.heap.size := by
    rcases Nat.lt_or_ge g w.heap.size with h1 | h1
    · exact h1
    · rw [Array.getElem?_eq_none h1] at hgc; cases hgc
  rw [hg.block g hlt (hne g rfl)]
  exact hgc
theorem grown_self (w : World) (r : Option Nat) : w.grownBy w r := ⟨rfl, rfl, rfl, Nat.le_refl _, fun _ _ _ => rfl⟩
theorem grown_cell {w W : World} {g i : Nat} {u : Value} (h : w.grownBy W (some g)) : w.grownBy (W.setCell ⟨g, i, none⟩ u) (some g) :=
  ⟨h.os, h.tape, h.output, by simpa using h.size, fun k hk hne => (heap_setCell_other W ⟨g, i, none⟩ k _ (fun e => hne (by simp [e]))).trans (h.block k hk hne)⟩

/-- The copy (x, at block s2), the answer (g, from s3 on), the model's answer (p, below s2). -/
structure Trio (W0 W : World) (s2 s3 : Nat) (ex : TypeId) (xn : Nat) (xs : List Value) (eg : TypeId) (vg : Value) (m : Nat) (gs : List Value) (ap : Option Addr) (ps : List Value) : Prop where
  x : W.ownsRow s2 ex 1 (.slice (some ⟨s2, 0, none⟩) xn xn) xn xs
  g : W.ownsRow s3 eg 1 vg m gs
  p : Row W s2 ap ps
  lt : s2 < s3
  le : s3 ≤ W.heap.size
  old : W0.heap.size ≤ s2
  below : Below W0.heap.size W0 W

section
variable {W0 W W' : World} {s2 s3 : Nat} {ex : TypeId} {xn : Nat} {xs : List Value} {eg : TypeId} {vg : Value} {m : Nat} {gs : List Value} {ap : Option Addr} {ps : List Value}

theorem Trio.call (h : Trio W0 W s2 s3 ex xn xs eg vg m gs ap ps) (hb : Below W.heap.size W W') : Trio W0 W' s2 s3 ex xn xs eg vg m gs ap ps := by
  have := h.le
  have := h.lt
  have := h.old
  exact ⟨own_keeps h.x hb, own_keeps h.g hb, h.p.keeps fun _ hp => hb.cell (by omega), h.lt, Nat.le_trans h.le hb.size, h.old, h.below.trans (hb.mono (by omega))⟩
theorem Trio.draws (h : Trio W0 W s2 s3 ex xn xs eg vg m gs ap ps) (n : Nat) : Trio W0 (W.drewN n) s2 s3 ex xn xs eg vg m gs ap ps := h.call (below_draws (Below.refl _ _) n)
theorem Trio.markX {xs' : List Value} (h : Trio W0 W s2 s3 ex xn xs eg vg m gs ap ps) (hg : W.grownBy W' (some s2)) (hx : W'.ownsRow s2 ex 1 (.slice (some ⟨s2, 0, none⟩) xn xn) xn xs') : Trio W0 W' s2 s3 ex xn xs' eg vg m gs ap ps := by
  have := h.le
  have := h.lt
  have := h.old
  refine ⟨hx, own_other h.g hg fun k hk e => ?_, h.p.keeps fun p hp => World.cell?_of_block (hg.block _ (by omega) fun e => ?_), h.lt, Nat.le_trans h.le hg.size, h.old, h.below.grown hg (by omega) fun k hk => by cases hk; exact h.old⟩
  · have := (h.g.lt k hk).1
    cases e
    omega
  · injection e with e
    omega
theorem Trio.markG {gs' : List Value} (h : Trio W0 W s2 s3 ex xn xs eg vg m gs ap ps) (hg : W.grownBy W' vg.ownBlock) (hx : W'.ownsRow s3 eg 1 vg m gs') : Trio W0 W' s2 s3 ex xn xs eg vg m gs' ap ps := by
  have := h.le
  have := h.lt
  have := h.old
  refine ⟨own_other h.x hg fun k hk e => ?_, hx, h.p.keeps fun p hp => World.cell?_of_block (hg.block _ (by omega) fun e => ?_), h.lt, Nat.le_trans h.le hg.size, h.old, h.below.grown hg (by omega) fun k hk => ?_⟩
  · have := (h.g.lt k e.symm).1
    have hk' : s2 = k := Option.some.inj hk
    omega
  · have := (h.g.lt _ e.symm).1
    omega
  · have := (h.g.lt k hk).1
    omega
theorem Trio.rowX (h : Trio W0 W s2 s3 ex xn xs eg vg m gs ap ps) : Row W W.heap.size (some ⟨s2, 0, none⟩) xs := Row.owned h.x
theorem Trio.rowG {a : Option Addr} {c : Nat} (h : Trio W0 W s2 s3 ex xn xs eg (.slice a m c) m gs ap ps) : Row W W.heap.size a gs := Row.owned h.g
theorem Trio.rowP (h : Trio W0 W s2 s3 ex xn xs eg vg m gs ap ps) : Row W W.heap.size ap ps := h.p.grow (Nat.le_trans (Nat.le_of_lt h.lt) h.le)
theorem Trio.rowOld {a : Option Addr} {zs : List Value} (h : Trio W0 W s2 s3 ex xn xs eg vg m gs ap ps) (hr : Row W0 W0.heap.size a zs) : Row W W.heap.size a zs := (hr.below h.below).grow h.below.size
end
end Go.Proofs.YtpmmjaceehlpiaaGreatDoor
/-
  Rows of ints: their cells, a []int argument opened, one cell behind an append. Nothing here knows of the program.
-/
namespace Go.Proofs.YtpmmjaceehlpiaaGreatDoor
open Go Go.ChangeShapes Go.WideShapes Go.ChangeAt Go.RowKit

def intVals (ns : List Int) : List Value := ns.map (Value.int .i64)
theorem intVals_snoc (l : List Int) (x : Int) : intVals (l ++ [x]) = intVals l ++ [.int .i64 x] := by simp [intVals]
theorem intVals_length (l : List Int) : (intVals l).length = l.length := by simp [intVals]
theorem intVals_at (l : List Int) (k : Nat) (h : k < l.length) : (intVals l)[k]? = some (.int .i64 l[k]) := by simp [intVals, h]

theorem oneCell_at {w : World} {e : TypeId} (x : Value) : ∀ (j : Nat) (u : Value), [x][j]? = some u → (w.alloc (.cells #[x] e)).cell? ((⟨w.heap.size, 0, none⟩ : Addr).add j) = some u := by
  intro j u hu
  match j, hu with
  | 0, hu =>
    simp at hu
    subst hu
    simp [Addr.add]
  | j + 1, hu => simp at hu
theorem oneCell_int (x : Int) : ∀ u ∈ [Value.int .i64 x], u.oneCell' = true := by
  intro u hu
  simp at hu
  subst hu
  rfl
theorem oneCell_str (x : ByteArray) : ∀ u ∈ [Value.string x], u.oneCell' = true := by
  intro u hu
  simp at hu
  subst hu
  rfl

/-- A row that a call has built: nil, or a block of its own. -/
def Built (base : Nat) (e : TypeId) (xs : List Value) (w : World) (en : Ending) (w' : World) : Prop :=
  ∃ a cap, en = .returned (.slice a xs.length cap) ∧ xs.length ≤ cap ∧ w'.ownsRow base e 1 (.slice a xs.length cap) xs.length xs ∧ Below base w w'
theorem built_end {w w' : World} {base : Nat} {e : TypeId} {v : Value} {n : Nat} {xs : List Value} (hn : n = xs.length) (h : w'.ownsRow base e 1 v n xs) (hb : Below base w w') : Built base e xs w (.returned v) w' := by
  subst hn
  rcases h.2 with ⟨rfl, h0⟩ | ⟨g, cap, cur, rfl, hbg, hg, hnc, hcm, hcs, ht⟩
  · refine ⟨none, 0, ?_, by omega, ?_, hb⟩
    · rw [h0]
    · rw [h0] at h ⊢
      exact h
  · exact ⟨_, cap, rfl, hnc, h, hb⟩

/-- A []int argument, opened: its numbers, their cells, their bounds. -/
theorem open_nums {H : Type} {enc : TypeId × Value → H} {P : Program} {W : World} {t e : TypeId} {v : Value} {d : DataW H} {ps : List MemPlace} {base : Nat}
    (ht : P.underlying t = some (.slice e)) (he : P.underlying e = some (.int .i64)) (hc : P.cellsOf e = 1) (hlt : ∀ x ∈ ps, x.block < W.heap.size)
    (hval : Value.okWide P W .any base t v) (h : DataW.Trod enc P W 0 (fun _ => true) true t v d ps) :
    ∃ (a : Option Addr) (cap : Nat) (ns : List Int), v = .slice a ns.length cap ∧ ns.length ≤ cap ∧ ns.length ≤ maxLen ∧ Row W W.heap.size a (intVals ns) ∧ (∀ n ∈ ns, -9223372036854775808 ≤ n ∧ n ≤ 9223372036854775807) ∧ (a = none → ns = [] ∧ cap = 0) := by
  obtain ⟨a0, len, cap, rfl⟩ := okWide_slice ht hval
  obtain ⟨fuel, hf⟩ := h
  rcases open_ints ht he hc hf with ⟨hcs, hx⟩ | ⟨a, len', cap', zs, hcs, _, hl, hm, hz, hx, hcell, hws⟩
  · simp [Value.cells] at hcs
    obtain ⟨rfl, rfl, rfl⟩ := hcs
    exact ⟨none, 0, [], rfl, Nat.le_refl _, Nat.zero_le _, Row.nil_, (fun s hs => by simp at hs), fun _ => ⟨rfl, rfl⟩⟩
  · simp [Value.cells] at hcs
    obtain ⟨rfl, rfl, rfl⟩ := hcs
    simp only [Prod.mk.injEq] at hx
    obtain ⟨rfl, rfl⟩ := hx
    simp only [if_true] at hz
    have hlen : (zs.take len).length = len := by simp; omega
    refine ⟨some a, cap, zs.take len, by rw [hlen], by omega, by omega, ?_, fun s hs => i64_bounds (hws s (List.mem_of_mem_take hs)), fun h => by cases h⟩
    intro k x hx
    obtain ⟨hk, rfl⟩ := List.getElem?_eq_some_iff.1 hx
    have hk' : k < len := by simpa [intVals, hz] using (Nat.lt_of_lt_of_le hk (by simp [intVals]; omega) : k < len)
    obtain ⟨b, off, spot⟩ := a
    have hspot : spot = none := by simpa [Addr.add] using World.cell?_spot (hcell 0 (by omega))
    subst hspot
    refine ⟨b, off, rfl, hlt (.cell b (off + 0)) (MemPlace.mem_row.2 ⟨0, by omega, by simp⟩), ?_⟩
    rw [← add_plain, hcell k (by omega)]
    have hk2 : k < zs.length := by omega
    simp [intVals, List.getD, hk2]
end Go.Proofs.YtpmmjaceehlpiaaGreatDoor
/-
  What a name is, the place of a string in a list, a list of variables, the positions of a number in a list.
-/
namespace Go.Proofs.YtpmmjaceehlpiaaGreatDoor
open Go Go.RowKit

def goodName (s : ByteArray) : Bool := decide ((∀ k (h : k < s.size), 97 ≤ (s[k]'h).toNat ∧ (s[k]'h).toNat ≤ 122) ∧ 1 ≤ s.size ∧ s.size ≤ 2)
theorem name_bad {s : ByteArray} {k : Nat} (h : k < s.size) (hb : (s[k]'h).toNat < 97 ∨ 122 < (s[k]'h).toNat) : goodName s = false := by
  simp only [goodName, decide_eq_false_iff_not]
  intro hh
  have := hh.1 k h
  omega
theorem name_long {s : ByteArray} (h : 2 < s.size) : goodName s = false := by
  simp only [goodName, decide_eq_false_iff_not]
  omega
theorem name_whole {s : ByteArray} (h : ∀ k (h : k < s.size), 97 ≤ (s[k]'h).toNat ∧ (s[k]'h).toNat ≤ 122) : goodName s = decide (1 ≤ s.size ∧ s.size ≤ 2) := by
  simp only [goodName]
  congr 1
  simp only [eq_iff_iff]
  exact ⟨fun hh => hh.2, fun hh => ⟨h, hh⟩⟩

def placeFrom (s : ByteArray) : Nat → List ByteArray → Int
  | _, [] => -1
  | k, x :: xs => if (x.toList == s.toList) = true then (k : Int) else placeFrom s (k + 1) xs
def place (ss : List ByteArray) (s : ByteArray) : Int := placeFrom s 0 ss
theorem place_hit {ss : List ByteArray} {s : ByteArray} {k : Nat} (h : k < ss.length) (e : (ss[k].toList == s.toList) = true) : placeFrom s k (ss.drop k) = (k : Int) := by
  rw [List.drop_eq_getElem_cons h, placeFrom, if_pos e]
theorem place_miss {ss : List ByteArray} {s : ByteArray} {k : Nat} (h : k < ss.length) (e : (ss[k].toList == s.toList) = false) : placeFrom s k (ss.drop k) = placeFrom s (k + 1) (ss.drop (k + 1)) := by
  rw [List.drop_eq_getElem_cons h, placeFrom, if_neg (by simp [e])]
theorem place_end {ss : List ByteArray} {s : ByteArray} {k : Nat} (h : ss.length ≤ k) : placeFrom s k (ss.drop k) = -1 := by
  rw [List.drop_eq_nil_of_le h, placeFrom]
theorem placeFrom_bounds (s : ByteArray) : ∀ (ss : List ByteArray) (k : Nat), -1 ≤ placeFrom s k ss ∧ placeFrom s k ss < (k : Int) + ss.length + 1
  | [], k => by simp [placeFrom]; omega
  | x :: xs, k => by
    have := placeFrom_bounds s xs (k + 1)
    simp only [placeFrom, List.length_cons]
    split <;> omega
theorem place_bounds (ss : List ByteArray) (s : ByteArray) : -1 ≤ place ss s ∧ place ss s ≤ ss.length := by
  have := placeFrom_bounds s ss 0
  simp only [place]
  omega

def goodVars (ss : List ByteArray) : Bool := decide ((∀ k (h : k < ss.length), goodName ss[k] = true ∧ place ss ss[k] = (k : Int)) ∧ 1 ≤ ss.length ∧ ss.length ≤ 4)
theorem vars_bad {ss : List ByteArray} {k : Nat} (h : k < ss.length) (hb : ¬ (goodName ss[k] = true ∧ place ss ss[k] = (k : Int))) : goodVars ss = false := by
  simp only [goodVars, decide_eq_false_iff_not]
  exact fun hh => hb (hh.1 k h)
theorem vars_length {ss : List ByteArray} (h : ¬ (1 ≤ ss.length ∧ ss.length ≤ 4)) : goodVars ss = false := by
  simp only [goodVars, decide_eq_false_iff_not]
  exact fun hh => h hh.2
theorem vars_whole {ss : List ByteArray} (h : ∀ k (h : k < ss.length), goodName ss[k] = true ∧ place ss ss[k] = (k : Int)) : goodVars ss = decide (1 ≤ ss.length ∧ ss.length ≤ 4) := by
  simp only [goodVars]
  congr 1
  simp only [eq_iff_iff]
  exact ⟨fun hh => hh.2, fun hh => ⟨h, hh⟩⟩
theorem vars_at {ss : List ByteArray} (h : goodVars ss = true) {k : Nat} (hk : k < ss.length) : goodName ss[k] = true ∧ place ss ss[k] = (k : Int) := (of_decide_eq_true h).1 k hk

/-- Where a number stands in a list. -/
def posFrom (n : Int) : Nat → List Int → List Int
  | _, [] => []
  | k, z :: zs => if z = n then (k : Int) :: posFrom n (k + 1) zs else posFrom n (k + 1) zs
theorem pos_hit {zs : List Int} {n : Int} {k : Nat} (h : k < zs.length) (e : zs[k] = n) : posFrom n k (zs.drop k) = (k : Int) :: posFrom n (k + 1) (zs.drop (k + 1)) := by
  rw [List.drop_eq_getElem_cons h, posFrom, if_pos e]
theorem pos_miss {zs : List Int} {n : Int} {k : Nat} (h : k < zs.length) (e : zs[k] ≠ n) : posFrom n k (zs.drop k) = posFrom n (k + 1) (zs.drop (k + 1)) := by
  rw [List.drop_eq_getElem_cons h, posFrom, if_neg e]
theorem pos_end {zs : List Int} {n : Int} {k : Nat} (h : zs.length ≤ k) : posFrom n k (zs.drop k) = [] := by
  rw [List.drop_eq_nil_of_le h, posFrom]
theorem posFrom_length (n : Int) : ∀ (zs : List Int) (k : Nat), (posFrom n k zs).length ≤ zs.length
  | [], _ => by simp [posFrom]
  | z :: zs, k => by
    have := posFrom_length n zs (k + 1)
    simp only [posFrom, List.length_cons]
    split
    · simp; omega
    · omega
theorem posFrom_mem (n : Int) : ∀ (zs : List Int) (k : Nat) (z : Int), z ∈ posFrom n k zs → ∃ j : Nat, z = ((k + j : Nat) : Int) ∧ ∃ h : j < zs.length, zs[j] = n
  | [], _, _, h => by simp [posFrom] at h
  | x :: xs, k, z, h => by
    have hrec : z ∈ posFrom n (k + 1) xs → ∃ j : Nat, z = ((k + j : Nat) : Int) ∧ ∃ h : j < (x :: xs).length, (x :: xs)[j] = n := by
      intro h
      obtain ⟨j, e, hj, hn⟩ := posFrom_mem n xs (k + 1) z h
      exact ⟨j + 1, by rw [e]; congr 1; omega, by simp; omega, by simpa using hn⟩
    simp only [posFrom] at h
    split at h
    · rename_i hx
      rcases List.mem_cons.1 h with e | h
      · exact ⟨0, by simpa using e, by simp, by simpa using hx⟩
      · exact hrec h
    · exact hrec h
theorem posFrom_lt (n : Int) : ∀ (zs : List Int) (k : Nat), (posFrom n k zs).Pairwise (· < ·)
  | [], _ => by simp [posFrom]
  | x :: xs, k => by
    have h := posFrom_lt n xs (k + 1)
    simp only [posFrom]
    split
    · refine List.pairwise_cons.2 ⟨fun z hz => ?_, h⟩
      obtain ⟨j, e, _⟩ := posFrom_mem n xs (k + 1) z hz
      omega
    · exact h
end Go.Proofs.YtpmmjaceehlpiaaGreatDoor
/-
  The model's IsName, IndexOf, AreVars, Positions: what each returns.
-/
namespace Go.Proofs.YtpmmjaceehlpiaaGreatDoor
open Go Go.RowKit

theorem specIn (n lo hi : Int) (w : World) : Calls Tryz.prog 58 #[.int .i64 n, .int .i64 lo, .int .i64 hi] w fun e w' => e = .returned (.bool (decide (lo ≤ n) && decide (n ≤ hi))) ∧ w = w' := by
  by_cases h : lo ≤ n
  · rw [decide_eq_true h, Bool.true_and]
    go_enter Tryz.func58, Tryz.ntmps58
    go_wp2
    go_ret
    exact ⟨rfl, rfl⟩
  · rw [decide_eq_false h, Bool.false_and]
    go_enter Tryz.func58, Tryz.ntmps58
    go_wp2
    go_ret
    exact ⟨rfl, rfl⟩

theorem nat_in (n hi : Nat) : (decide ((1 : Int) ≤ (n : Int)) && decide ((n : Int) ≤ (hi : Int))) = decide (1 ≤ n ∧ n ≤ hi) := by
  rw [← Bool.decide_and]
  congr 1
  simp only [eq_iff_iff]
  omega

set_option maxHeartbeats 400000 in
theorem specIsName (s : ByteArray) (w : World) (hs : s.size ≤ maxLen) : Calls Tryz.prog 136 #[.string s] w fun e w' => e = .returned (.bool (goodName s)) ∧ w = w' := by
  unfold maxLen at hs
  go_enter Tryz.func136, Tryz.ntmps136
  go_wp2
  go_loop [3] (fun i => ∃ k : Nat, k ≤ s.size ∧ i = .int .i64 k ∧ ∀ j (h : j < s.size), j < k → 97 ≤ (s[j]'h).toNat ∧ (s[j]'h).toNat ≤ 122) (fun i => s.size - (intOf i).toNat)
  case atStart => exact ⟨0, Nat.zero_le _, rfl, fun j _ h => by omega⟩
  case round =>
    obtain ⟨k, hk, rfl, hall⟩ := hrel
    have Hall := Lib.hid hall
    clear hall
    by_cases hlt : k < s.size
    · by_cases hlo : (s[k].toNat : Int) < 97
      · have hbad : goodName s = false := name_bad hlt (.inl (by omega))
        have Hbad := Lib.hid hbad
        clear hbad
        go_wp2
        go_ret
        rw [Hbad.out]
        exact ⟨rfl, rfl⟩
      · by_cases hhi : 122 < (s[k].toNat : Int)
        · have hbad : goodName s = false := name_bad hlt (.inr (by omega))
          have Hbad := Lib.hid hbad
          clear hbad
          go_wp2
          go_ret
          rw [Hbad.out]
          exact ⟨rfl, rfl⟩
        · go_wp2
          go_round
          case rel =>
            refine ⟨k + 1, by omega, by go_num, fun j h hj => ?_⟩
            by_cases hjk : j = k
            · subst hjk
              omega
            · exact Hall.out j h (by omega)
          case measure => simp [intOf]; omega
    · have hgood : goodName s = decide (1 ≤ s.size ∧ s.size ≤ 2) := name_whole fun j h => Hall.out j h (by omega)
      have Hgood := Lib.hid hgood
      clear hgood
      go_wp2_with fail
      refine (specIn s.size 1 2 _).mono ?_
      rintro e w1 ⟨rfl, rfl⟩
      go_wp2
      go_ret
      rw [Hgood.out]
      exact ⟨by rw [← nat_in]; rfl, rfl⟩

set_option maxHeartbeats 400000 in
theorem specIndexOf (a : Option Addr) (cap : Nat) (ss : List ByteArray) (s : ByteArray) (w : World) (hlen : ss.length ≤ maxLen) (hrow : Row w w.heap.size a (strVals ss)) :
    Calls Tryz.prog 104 #[.slice a ss.length cap, .string s] w fun e w' => e = .returned (.int .i64 (place ss s)) ∧ w = w' := by
  unfold maxLen at hlen
  go_enter Tryz.func104, Tryz.ntmps104
  go_wp2
  go_loop [5] (fun i => ∃ k : Nat, k ≤ ss.length ∧ i = .int .i64 k ∧ place ss s = placeFrom s k (ss.drop k)) (fun i => ss.length - (intOf i).toNat)
  case atStart => exact ⟨0, Nat.zero_le _, rfl, rfl⟩
  case round =>
    obtain ⟨k, hk, rfl, hp⟩ := hrel
    by_cases hlt : k < ss.length
    · obtain ⟨b, o, rfl, hbW, hc⟩ := hrow k (.string ss[k]) (by simp [strVals, hlt])
      cases he : (ss[k].toList == s.toList) with
      | true =>
        rw [place_hit hlt he] at hp
        have Hp := Lib.hid hp
        clear hp
        go_wp2
        go_ret
        rw [Hp.out]
        exact ⟨rfl, rfl⟩
      | false =>
        rw [place_miss hlt he] at hp
        have Hp := Lib.hid hp
        clear hp
        go_wp2
        go_round
        case rel => exact ⟨k + 1, by omega, by go_num, Hp.out⟩
        case measure => simp [intOf]; omega
    · rw [place_end (by omega)] at hp
      have Hp := Lib.hid hp
      clear hp
      go_wp2
      go_ret
      rw [Hp.out]
      exact ⟨rfl, rfl⟩

set_option maxHeartbeats 400000 in
theorem specAreVars (a : Option Addr) (cap : Nat) (ss : List ByteArray) (w : World) (hlen : ss.length ≤ maxLen) (hws : ∀ s ∈ ss, s.size ≤ maxLen) (hrow : Row w w.heap.size a (strVals ss)) :
    Calls Tryz.prog 102 #[.slice a ss.length cap] w fun e w' => e = .returned (.bool (goodVars ss)) ∧ w = w' := by
  have hlen' := hlen
  unfold maxLen at hlen
  go_enter Tryz.func102, Tryz.ntmps102
  go_wp2
  go_loop [3] (fun i => ∃ k : Nat, k ≤ ss.length ∧ i = .int .i64 k ∧ ∀ j (h : j < ss.length), j < k → goodName ss[j] = true ∧ place ss ss[j] = (j : Int)) (fun i => ss.length - (intOf i).toNat)
  case atStart => exact ⟨0, Nat.zero_le _, rfl, fun j _ h => by omega⟩
  case round =>
    obtain ⟨k, hk, rfl, hall⟩ := hrel
    have Hall := Lib.hid hall
    clear hall
    by_cases hlt : k < ss.length
    · obtain ⟨b, o, rfl, hbW, hc⟩ := hrow k (.string ss[k]) (by simp [strVals, hlt])
      have hsz := hws ss[k] (List.getElem_mem hlt)
      cases hg : goodName ss[k] with
      | false =>
        have hbad : goodVars ss = false := vars_bad hlt (by rw [hg]; simp)
        have Hbad := Lib.hid hbad
        have Hg := Lib.hid hg
        clear hbad hg
        go_wp2_with fail
        refine (specIsName ss[k] _ hsz).mono ?_
        rintro e w1 ⟨rfl, rfl⟩
        rw [Hg.out]
        go_wp2
        go_ret
        rw [Hbad.out]
        exact ⟨rfl, rfl⟩
      | true =>
        have Hg := Lib.hid hg
        clear hg
        go_wp2_with fail
        refine (specIsName ss[k] _ hsz).mono ?_
        rintro e w1 ⟨rfl, rfl⟩
        rw [Hg.out]
        go_wp2_with fail
        refine (specIndexOf _ _ ss ss[k] _ hlen' hrow).mono ?_
        rintro e w1 ⟨rfl, rfl⟩
        by_cases hp : place ss ss[k] = (k : Int)
        · rw [hp]
          have Hp := Lib.hid hp
          clear hp
          go_wp2
          go_round
          case rel =>
            refine ⟨k + 1, by omega, by go_num, fun j h hj => ?_⟩
            by_cases hjk : j = k
            · subst hjk
              exact ⟨Hg.out, Hp.out⟩
            · exact Hall.out j h (by omega)
          case measure => simp [intOf]; omega
        · have hbad : goodVars ss = false := vars_bad hlt (fun h => hp h.2)
          have Hbad := Lib.hid hbad
          have hne : (place ss ss[k] != (k : Int)) = true := by simpa using hp
          clear hbad
          generalize place ss ss[k] = q at *
          go_wp2
          go_ret
          rw [Hbad.out]
          exact ⟨rfl, rfl⟩
    · have hgood : goodVars ss = decide (1 ≤ ss.length ∧ ss.length ≤ 4) := vars_whole fun j h => Hall.out j h (by omega)
      have Hgood := Lib.hid hgood
      clear hgood
      go_wp2_with fail
      refine (specIn ss.length 1 4 _).mono ?_
      rintro e w1 ⟨rfl, rfl⟩
      go_wp2
      go_ret
      rw [Hgood.out]
      exact ⟨by rw [← nat_in]; rfl, rfl⟩

theorem numInfo : (Tryz.prog.info? 3).map (fun i => (i.zero, i.size, i.bytes)) = some (some (.int .i64 0), 1, 8) := by kernel_rfl

set_option maxRecDepth 100000 in
set_option maxHeartbeats 800000 in
theorem specPositions (a : Option Addr) (cap : Nat) (ns : List Int) (n : Int) (w : World) (hlen : ns.length ≤ 1048576) (hrow : Row w w.heap.size a (intVals ns)) :
    Calls Tryz.prog 138 #[.slice a ns.length cap, .int .i64 n] w (Built w.heap.size 3 (intVals (posFrom n 0 ns)) w) := by
  obtain ⟨i0, hi, hz0, hz1, hz2⟩ := info_parts numInfo
  go_enter Tryz.func138, Tryz.ntmps138
  go_wp2
  go_loopw [5, 6] (fun v i wr => ∃ (k : Nat) (qs : List Int), k ≤ ns.length ∧ i = .int .i64 k ∧ qs.length ≤ k ∧ qs ++ posFrom n k (ns.drop k) = posFrom n 0 ns ∧ wr.ownsRow w.heap.size 3 1 v qs.length (intVals qs) ∧ Below w.heap.size w wr)
    (fun _ i _ => ns.length - (intOf i).toNat)
  case atStart => exact ⟨0, [], Nat.zero_le _, rfl, Nat.le_refl _, rfl, World.ownsRow_made w #[] 0 (Nat.le_refl _) (Nat.zero_le _) rfl, (Below.refl _ _).alloc (Nat.le_refl _) _⟩
  case round =>
    obtain ⟨k, qs, hk, rfl, hql, hq, hown, hbw⟩ := hrel
    have Hown := Lib.hid hown
    clear hown
    by_cases hlt : k < ns.length
    · obtain ⟨b, o, rfl, hbW, hc0⟩ := hrow k (.int .i64 ns[k]) (intVals_at ns k hlt)
      have hc : wr.cell? ⟨b, o + k, none⟩ = some (.int .i64 ns[k]) := (hbw.cell (p := ⟨b, o + k, none⟩) hbW).trans hc0
      clear hc0
      by_cases he : ns[k] = n
      · rw [pos_hit hlt he] at hq
        have Hq := Lib.hid hq
        have hd : (ns[k] == n) = true := by simpa using he
        clear hq he
        go_wp2_with (at_builtin; refine wpList_append_own _ rfl (.tmp 20) (.tmp 22) 28 rfl w.heap.size 3 i0 (.int .i64 0) 1 8 Tryz.underlying28 hi hz0 hz1 hz2 rfl (by decide) _ qs.length _ rfl (Hown.out.alloc _) ⟨wr.heap.size, 0, none⟩ 1 1 [.int .i64 (k : Int)] rfl rfl (oneCell_at _) (oneCell_int _) (by unfold maxLen; omega) (by omega) (Nat.le_trans hbw.size (by simp)) ?_; intro v2 w2 hown2 hg2 _; have hb2 := own_below (Hown.out.alloc _) hg2 (Nat.le_trans hbw.size (by simp)) (hbw.alloc hbw.size _); clear hg2)
        go_roundw
        case rel => exact ⟨k + 1, qs ++ [(k : Int)], by omega, by go_num, by simp; omega, by rw [← Hq.out]; simp, by rw [intVals_snoc, List.length_append, List.length_singleton]; exact hown2, hb2⟩
        case measure => simp [intOf]; omega
      · rw [pos_miss hlt he] at hq
        have Hq := Lib.hid hq
        have hd : (ns[k] == n) = false := by simpa using he
        clear hq he
        go_wp2
        go_roundw
        case rel => exact ⟨k + 1, qs, by omega, by go_num, by omega, Hq.out, Hown.out, hbw⟩
        case measure => simp [intOf]; omega
    · rw [pos_end (by omega), List.append_nil] at hq
      have Hq := Lib.hid hq
      clear hq
      go_wp2
      go_ret
      rw [← Hq.out]
      exact built_end (intVals_length _).symm Hown.out hbw
end Go.Proofs.YtpmmjaceehlpiaaGreatDoor
