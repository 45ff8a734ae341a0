/-
  Several texts of one proof in one file, in the order in which they build.
-/
import Derived.Lib.QuietBelow
import Derived.Test.YtpmmjaceehlpiaaGreatDoorChecked
import Derived.Lib.SmallJoins
import Derived.Deep.Slices
import Derived.Maps.OwnSet
import Derived.Maps.RangeWalk
import Derived.Maps.Ext
import Derived.Deep.RegionHeld3
import Derived.Deep.RegionLaw
import Derived.Deep.AppendLies
import Derived.Test.YtpmmjaceehlpiaaGreatDoorR01
/-
  Rows that lie between two blocks: what turns elsewhere leaves them. Nothing here knows of the program.
-/
namespace Go.Proofs.YtpmmjaceehlpiaaGreatDoor
open Go Go.RowKit Go.WideShapes Go.Sort

/-- Only blocks from lo on, below hi, may have turned; new ones may be there. -/
structure Turn (lo hi : Nat) (W W' : World) : Prop where
  os : W'.os = W.os
  tape : W'.tape = W.tape
  output : W'.output = W.output
  size : W.heap.size ≤ W'.heap.size
  block : ∀ k, k < W.heap.size → (k < lo ∨ hi ≤ k) → W'.heap[k]? = W.heap[k]?
theorem Turn.of_below {lo hi : Nat} {W W' : World} (h : Below W.heap.size W W') : Turn lo hi W W' := ⟨h.os, h.tape, h.output, h.size, fun k hk _ => h.block k hk⟩
theorem Turn.of_grown {lo hi : Nat} {W W' : World} {r : Option Nat} (h : W.grownBy W' r) (hr : ∀ k, r = some k → lo ≤ k ∧ k < hi) : Turn lo hi W W' :=
  ⟨h.os, h.tape, h.output, h.size, fun k hk hd => h.block k hk fun e => by have := hr k e.symm; omega⟩
theorem Turn.trans {lo hi : Nat} {W W' W'' : World} (h : Turn lo hi W W') (k : Turn lo hi W' W'') : Turn lo hi W W'' :=
  ⟨k.os.trans h.os, k.tape.trans h.tape, k.output.trans h.output, Nat.le_trans h.size k.size, fun j hj hd => (k.block j (Nat.lt_of_lt_of_le hj h.size) hd).trans (h.block j hj hd)⟩
theorem Turn.below {B lo hi : Nat} {w W W' : World} (h : Below B w W) (t : Turn lo hi W W') (hB : B ≤ lo) (hs : B ≤ W.heap.size) : Below B w W' :=
  ⟨t.os.trans h.os, t.tape.trans h.tape, t.output.trans h.output, Nat.le_trans h.size t.size, fun k hk => (t.block k (by omega) (.inl (by omega))).trans (h.block k hk)⟩
theorem Turn.mono {lo hi lo' hi' : Nat} {W W' : World} (h : Turn lo hi W W') (h1 : lo' ≤ lo) (h2 : hi ≤ hi') : Turn lo' hi' W W' :=
  ⟨h.os, h.tape, h.output, h.size, fun k hk hd => h.block k hk (by omega)⟩

/-- A row in blocks from lo on, below hi: it may be read. -/
def RowIn (lo hi : Nat) (W : World) (a : Option Addr) (xs : List Value) : Prop := hi ≤ W.heap.size ∧ ∀ k x, xs[k]? = some x → ∃ b o, a = some ⟨b, o, none⟩ ∧ lo ≤ b ∧ b < hi ∧ W.cell? ⟨b, o + k, none⟩ = some x
theorem RowIn.row {lo hi : Nat} {W : World} {a : Option Addr} {xs : List Value} (h : RowIn lo hi W a xs) : Row W W.heap.size a xs := fun k x hx => by
  obtain ⟨b, o, e, _, h2, hc⟩ := h.2 k x hx
  exact ⟨b, o, e, Nat.lt_of_lt_of_le h2 h.1, hc⟩
theorem RowIn.turn {lo hi lo' hi' : Nat} {W W' : World} {a : Option Addr} {xs : List Value} (h : RowIn lo hi W a xs) (t : Turn lo' hi' W W') (hd : hi ≤ lo' ∨ hi' ≤ lo) : RowIn lo hi W' a xs := by
  refine ⟨Nat.le_trans h.1 t.size, fun k x hx => ?_⟩
  obtain ⟨b, o, e, h1, h2, hc⟩ := h.2 k x hx
  exact ⟨b, o, e, h1, h2, (World.cell?_of_block (t.block b (Nat.lt_of_lt_of_le h2 h.1) (by omega))).trans hc⟩
theorem RowIn.below {lo hi : Nat} {W W' : World} {a : Option Addr} {xs : List Value} (h : RowIn lo hi W a xs) (hb : Below W.heap.size W W') : RowIn lo hi W' a xs := h.turn (lo' := hi) (hi' := hi) (Turn.of_below hb) (.inl (Nat.le_refl _))

theorem RowIn.grown {lo hi : Nat} {W W' : World} {a : Option Addr} {xs : List Value} {r : Option Nat} (h : RowIn lo hi W a xs) (hg : W.grownBy W' r) (hr : ∀ k, r = some k → k < lo ∨ hi ≤ k) : RowIn lo hi W' a xs := by
  refine ⟨Nat.le_trans h.1 hg.size, fun k x hx => ?_⟩
  obtain ⟨b, o, e, h1, h2, hc⟩ := h.2 k x hx
  exact ⟨b, o, e, h1, h2, (World.cell?_of_block (hg.block b (Nat.lt_of_lt_of_le h2 h.1) fun e => by have := hr b e.symm; omega)).trans hc⟩

/-- A row that a call made, in blocks from lo on, below hi: it may be written. -/
def OwnIn (lo hi : Nat) (W : World) (e : TypeId) (size : Nat) (v : Value) (n : Nat) (xs : List Value) : Prop := hi ≤ W.heap.size ∧ W.ownsRow lo e size v n xs ∧ ∀ k, v.ownBlock = some k → k < hi
section
variable {lo hi lo' hi' : Nat} {W W' : World} {e size n : Nat} {v : Value} {xs ys : List Value}
theorem OwnIn.of (h : W.ownsRow lo e size v n xs) : OwnIn lo W.heap.size W e size v n xs := ⟨Nat.le_refl _, h, fun k hk => (h.lt k hk).2⟩
theorem OwnIn.turn (h : OwnIn lo hi W e size v n xs) (t : Turn lo' hi' W W') (hd : hi ≤ lo' ∨ hi' ≤ lo) : OwnIn lo hi W' e size v n xs := by
  refine ⟨Nat.le_trans h.1 t.size, ⟨h.2.1.1, h.2.1.2.imp id ?_⟩, h.2.2⟩
  rintro ⟨g, cap, cur, rfl, hb, hgc, r⟩
  have hlt := (h.2.1.lt g rfl)
  have := h.2.2 g rfl
  exact ⟨g, cap, cur, rfl, hb, (t.block g hlt.2 (by omega)).trans hgc, r⟩
theorem OwnIn.below (h : OwnIn lo hi W e size v n xs) (hb : Below W.heap.size W W') : OwnIn lo hi W' e size v n xs := h.turn (lo' := hi) (hi' := hi) (Turn.of_below hb) (.inl (Nat.le_refl _))
theorem OwnIn.mono (h : OwnIn lo hi W e size v n xs) (h1 : lo' ≤ lo) (h2 : hi ≤ hi') (h3 : hi' ≤ W.heap.size) : OwnIn lo' hi' W e size v n xs := ⟨h3, own_base h.2.1 h1, fun k hk => Nat.lt_of_lt_of_le (h.2.2 k hk) h2⟩
theorem OwnIn.again (h : OwnIn lo hi W e size v n xs) (hg : hi ≤ W'.heap.size) (h' : W'.ownsRow lo e size v n ys) : OwnIn lo hi W' e size v n ys := ⟨hg, h', h.2.2⟩
theorem OwnIn.grows (h : OwnIn lo hi W e size v n xs) (hg : W.grownBy W' v.ownBlock) : Turn lo hi W W' := Turn.of_grown hg fun k hk => ⟨(h.2.1.lt k hk).1, h.2.2 k hk⟩
end
theorem OwnIn.rowIn {lo hi : Nat} {W : World} {e n : Nat} {a : Option Addr} {c : Nat} {size : Nat} {xs : List Value} (h : OwnIn lo hi W e size (.slice a n c) n xs) : RowIn lo hi W a xs := by
  refine ⟨h.1, fun k x hx => ?_⟩
  obtain ⟨hl, ho⟩ := h.2.1
  rcases ho with ⟨hv, hn⟩ | ⟨g, cap, cur, hv, hg0, hg, _⟩
  · rw [hn, Nat.zero_mul] at hl
    rw [List.eq_nil_of_length_eq_zero hl] at hx
    simp at hx
  · injection hv with ha _ _
    have hblk := h.2.2 g (by rw [ha]; rfl)
    refine ⟨g, 0, ha, hg0, hblk, ?_⟩
    have hc := h.2.1.cells (g := g) (by subst ha; rfl) k x hx
    rw [add_plain] at hc
    exact hc
theorem OwnIn.row {lo hi : Nat} {W : World} {e n : Nat} {a : Option Addr} {c : Nat} {size : Nat} {xs : List Value} (h : OwnIn lo hi W e size (.slice a n c) n xs) : Row W W.heap.size a xs := h.rowIn.row
theorem OwnIn.form {lo hi : Nat} {W : World} {e size n : Nat} {v : Value} {xs : List Value} (h : OwnIn lo hi W e size v n xs) : ∃ a c, v = .slice a n c ∧ n ≤ c := by
  rcases h.2.1.2 with ⟨rfl, rfl⟩ | ⟨g, cap, cur, rfl, _, _, hc, _⟩
  · exact ⟨_, _, rfl, Nat.le_refl _⟩
  · exact ⟨_, _, rfl, hc⟩

/-- It returned x; nothing old has turned. -/
def GaveX (x : Value) (w : World) (e : Ending) (w' : World) : Prop := e = .returned x ∧ Below w.heap.size w w'
/-- .. met in a region that draws its order. -/
theorem at_again {P : Program} {f : FuncId} {args : Array Value} {w : World} {d : Nat} {os : Array Obj} {v : Value} (h : Calls P f args (grow (redrawn w d) os) (GaveX v (grow (redrawn w d) os))) :
    Calls P f args (grow (redrawn w d) os) fun e w'' => e = .returned v ∧ ∃ p : Regrown, w'' = grow (redrawn w p.d) p.os := Calls.regrown_of h
theorem same_again {P : Program} {f : FuncId} {args : Array Value} {w : World} {d : Nat} {os : Array Obj} {v : Value} (h : Calls P f args (grow (redrawn w d) os) fun e w' => e = .returned v ∧ grow (redrawn w d) os = w') :
    Calls P f args (grow (redrawn w d) os) fun e w'' => e = .returned v ∧ ∃ p : Regrown, w'' = grow (redrawn w p.d) p.os :=
  Calls.regrown_of (h.mono fun _ _ ⟨he, hw⟩ => ⟨he, hw ▸ Below.refl _ _⟩)
theorem row_again {w : World} {a : Option Addr} {xs : List Value} (h : Row w w.heap.size a xs) (d : Nat) (os : Array Obj) : Row (grow (redrawn w d) os) (grow (redrawn w d) os).heap.size a xs :=
  (h.below (below_regrown w d os)).grow (below_regrown w d os).size
end Go.Proofs.YtpmmjaceehlpiaaGreatDoor
/-
  The law's comparison of two []int: true where both hold the same numbers.
-/
namespace Go.Proofs.YtpmmjaceehlpiaaGreatDoor
open Go Go.RowKit

def SameNumsEnd (r : Bool) (w : World) (e : Ending) (w' : World) : Prop := ∃ n, e = .returned (.bool r) ∧ w' = w.drewN n

set_option maxHeartbeats 400000 in
theorem eqInts (a b : Option Addr) (ca cb : Nat) (ns : List Int) (w : World) (hn : ns.length ≤ maxLen) (ha : Row w w.heap.size a (intVals ns)) (hb : Row w w.heap.size b (intVals ns)) :
    Calls Tryz.prog 30 #[.slice a ns.length ca, .slice b ns.length cb] w (SameNumsEnd true w) := by
  unfold maxLen at hn
  go_enter Tryz.func30, Tryz.ntmps30
  go_wp2
  go_loopw [5] (fun i wr => ∃ (k n : Nat), k ≤ ns.length ∧ i = .int .i64 k ∧ wr = w.drewN n) (fun i _ => ns.length - (intOf i).toNat)
  case atStart => exact ⟨0, 0, Nat.zero_le _, rfl, rfl⟩
  case round =>
    obtain ⟨k, n, hk, rfl, rfl⟩ := hrel
    by_cases hlt : k < ns.length
    · obtain ⟨ba, oa, rfl, _, hca⟩ := ha k (.int .i64 ns[k]) (intVals_at ns k hlt)
      obtain ⟨bb, ob, rfl, _, hcb⟩ := hb k (.int .i64 ns[k]) (intVals_at ns k hlt)
      go_wp2
      go_quiet (fail)
      go_wp2
      go_roundw
      case rel => exact ⟨k + 1, _, by omega, by go_num, rfl⟩
      case measure => simp [intOf]; omega
    · go_wp2
      go_ret
      exact ⟨_, rfl, rfl⟩
end Go.Proofs.YtpmmjaceehlpiaaGreatDoor
/-
  The law writes marks into a []int of the program's answer, and looks later whether they are still there.
-/
namespace Go.Proofs.YtpmmjaceehlpiaaGreatDoor
open Go Go.RowKit

def numsFrom (k n : Nat) : List Int := (List.range n).map fun i => ((k + i : Nat) : Int)
theorem numsFrom_length (k n : Nat) : (numsFrom k n).length = n := by simp [numsFrom]
theorem numsFrom_next (k n : Nat) : numsFrom k (n + 1) = numsFrom k n ++ [((k + n : Nat) : Int)] := by simp [numsFrom, List.range_succ]
theorem numsFrom_at (k n j : Nat) (h : j < n) : (intVals (numsFrom k n))[j]? = some (.int .i64 ((k + j : Nat) : Int)) := by
  simp [intVals, numsFrom, h]
theorem set_take_mark {α : Type} (ys : List α) (k : Nat) (x : α) (h : k < ys.length) : (ys.set k x).take (k + 1) = ys.take k ++ [x] := by
  rw [List.take_succ_eq_append_getElem (by simpa using h)]
  simp [List.take_set_of_le]

def MarkedNumsEnd (base k n : Nat) (a : Option Addr) (cap : Nat) (w : World) (e : Ending) (w' : World) : Prop :=
  e = .returned (.int .i64 ((k + n : Nat) : Int)) ∧ w'.ownsRow base 3 1 (.slice a n cap) n (intVals (numsFrom k n)) ∧ w.grownBy w' (Value.slice a n cap).ownBlock

set_option maxRecDepth 100000 in
set_option maxHeartbeats 400000 in
theorem markInts (base k n : Nat) (a : Option Addr) (cap : Nat) (xs : List Value) (w : World) (hn : n ≤ 549755813888) (hk : k ≤ 549755813888) (hown : w.ownsRow base 3 1 (.slice a n cap) n xs) :
    Calls Tryz.prog 33 #[.slice a n cap, .int .i64 k] w (MarkedNumsEnd base k n a cap w) := by
  go_enter Tryz.func33, Tryz.ntmps33
  go_wp2
  go_loopw [1, 5] (fun m i wr => ∃ (j : Nat) (ys : List Value), j ≤ n ∧ i = .int .i64 j ∧ m = .int .i64 ((k + j : Nat) : Int) ∧ ys.take j = intVals (numsFrom k j) ∧ ys.length = n ∧ wr.ownsRow base 3 1 (.slice a n cap) n ys ∧ w.grownBy wr (Value.slice a n cap).ownBlock)
    (fun _ i _ => n - (intOf i).toNat)
  case atStart => exact ⟨0, xs, Nat.zero_le _, rfl, rfl, by simp [intVals, numsFrom], by simpa using hown.1, hown, grown_self _ _⟩
  case round =>
    obtain ⟨j, ys, hj, rfl, rfl, hys, hyl, ho, hb⟩ := hrel
    by_cases hlt : j < n
    · obtain ⟨g, rfl⟩ : ∃ g, a = some ⟨g, 0, none⟩ := by
        rcases ho.2 with ⟨_, h0⟩ | ⟨g, _, _, hv, _⟩
        · omega
        · injection hv with hv _ _
          exact ⟨g, hv⟩
      have hklt : j < ys.length := by omega
      obtain ⟨old, hold⟩ : ∃ old, wr.cell? ⟨g, j, none⟩ = some old := ⟨_, (ho.cellAt j (by omega)).trans (List.getElem?_eq_getElem hklt)⟩
      have hfr := ho.frozenAt j
      have hst := ho.stored j (.int .i64 ((k + j : Nat) : Int))
      have Hys := Lib.hid hys
      have Hyl := Lib.hid hyl
      have Hst := Lib.hid hst.1
      clear hys hyl ho hst
      go_wp2
      go_roundw
      case rel => exact ⟨j + 1, ys.set j (.int .i64 ((k + j : Nat) : Int)), by omega, by go_num, by go_num, by rw [set_take_mark ys j _ hklt, Hys.out, numsFrom_next]; exact (intVals_snoc _ _).symm, by rw [List.length_set]; exact Hyl.out, (by have h := Hst.out; simpa using h), grown_cell hb⟩
      case measure => simp [intOf]; omega
    · have hjn : j = n := by omega
      subst hjn
      have hfull : ys = intVals (numsFrom k j) := by
        rw [List.take_of_length_le (by omega)] at hys
        exact hys
      subst hfull
      have Hyl := Lib.hid hyl
      clear hys hyl
      go_wp2
      go_ret
      exact ⟨rfl, ho, hb⟩

/-- All marks are there: the count behind the last. -/
def HeldNumsEnd (k n : Nat) (w : World) (e : Ending) (w' : World) : Prop := e = .returned (.int .i64 ((k + n : Nat) : Int)) ∧ w = w'

set_option maxRecDepth 100000 in
set_option maxHeartbeats 800000 in
theorem heldInts (k n : Nat) (a : Option Addr) (cap : Nat) (w : World) (hn : n ≤ 549755813888) (hk : k ≤ 549755813888) (hrow : Row w w.heap.size a (intVals (numsFrom k n))) :
    Calls Tryz.prog 83 #[.slice a n cap, .int .i64 k] w (HeldNumsEnd k n w) := by
  go_enter Tryz.func83, Tryz.ntmps83
  go_wp2
  go_loop [1, 5] (fun m i => ∃ (j : Nat), j ≤ n ∧ i = .int .i64 j ∧ m = .int .i64 ((k + j : Nat) : Int))
    (fun _ i => n - (intOf i).toNat)
  case atStart => exact ⟨0, Nat.zero_le _, rfl, rfl⟩
  case round =>
    obtain ⟨j, hj, rfl, rfl⟩ := hrel
    by_cases hlt : j < n
    · obtain ⟨b, o, rfl, hbW, hc⟩ := hrow j _ (numsFrom_at k n j hlt)
      go_wp2
      go_round
      case rel => exact ⟨j + 1, by omega, by go_num, by go_num⟩
      case measure => simp [intOf]; omega
    · have hjn : j = n := by omega
      subst hjn
      go_wp2
      go_ret
      exact ⟨rfl, rfl⟩
end Go.Proofs.YtpmmjaceehlpiaaGreatDoor
/-
  The law's own copy of a []int: a new row with the same numbers.
-/
namespace Go.Proofs.YtpmmjaceehlpiaaGreatDoor
open Go Go.RowKit

theorem intInfo : (Tryz.prog.info? 3).map (fun i => (i.zero, i.size, i.bytes)) = some (some (.int .i64 0), 1, 8) := by kernel_rfl

/-- A new slice at the heap's end that holds the numbers; nothing old has turned. -/
def CopyNumsEnd (ns : List Int) (w : World) (e : Ending) (w' : World) : Prop :=
  e = .returned (.slice (some ⟨w.heap.size, 0, none⟩) ns.length ns.length) ∧ w'.ownsRow w.heap.size 3 1 (.slice (some ⟨w.heap.size, 0, none⟩) ns.length ns.length) ns.length (intVals ns) ∧ Below w.heap.size w w'

theorem set_take_num {α : Type} (ys : List α) (k : Nat) (x : α) (h : k < ys.length) : (ys.set k x).take (k + 1) = ys.take k ++ [x] := by
  rw [List.take_succ_eq_append_getElem (by simpa using h)]
  simp [List.take_set_of_le]

set_option maxHeartbeats 400000 in
theorem toInts (a : Option Addr) (cap : Nat) (ns : List Int) (w : World) (hn : ns.length ≤ 1099511627776) (hrow : Row w w.heap.size a (intVals ns)) :
    Calls Tryz.prog 26 #[.slice a ns.length cap] w (CopyNumsEnd ns w) := by
  obtain ⟨i0, hi, hz0, hz1, hz2⟩ := info_parts intInfo
  go_enter Tryz.func26, Tryz.ntmps26
  go_wp2_with (at_make; refine wpList_make_full _ rfl _ _ 28 rfl w.heap.size 3 i0 (.int .i64 0) 1 Tryz.underlying28 hi hz0 hz1 _ _ _ _ ns.length rfl rfl rfl rfl ?b2 ?b3 (Nat.le_refl _) ?_)
  case b2 => rw [hz2]; omega
  case b3 => unfold maxLen; omega
  intro w0 hown0 hgrow0
  go_wp2
  go_loopw [4] (fun i wr => ∃ (k : Nat) (ys : List Value), k ≤ ns.length ∧ i = .int .i64 k ∧ ys.take k = intVals (ns.take k) ∧ ys.length = ns.length ∧
      wr.ownsRow w.heap.size 3 1 (.slice (some ⟨w.heap.size, 0, none⟩) ns.length ns.length) ns.length ys ∧ Below w.heap.size w wr)
    (fun i _ => ns.length - (intOf i).toNat)
  case atStart => exact ⟨0, _, Nat.zero_le _, rfl, by simp [intVals], by simpa using hown0.1, hown0, (Below.refl _ _).grown hgrow0 (Nat.le_refl _) (fun k h => by cases h)⟩
  case round =>
    obtain ⟨k, ys, hk, rfl, hys, hyl, hown, hb⟩ := hrel
    by_cases hlt : k < ns.length
    · obtain ⟨b, o, rfl, hbW, hc⟩ := hrow k (.int .i64 ns[k]) (intVals_at ns k hlt)
      have hc1 : wr.cell? ⟨b, o + k, none⟩ = some (.int .i64 ns[k]) := (hb.cell (p := ⟨b, o + k, none⟩) hbW).trans hc
      obtain ⟨old, hold⟩ : ∃ old, wr.cell? ⟨w.heap.size, k, none⟩ = some old := ⟨_, (hown.cellAt k (by omega)).trans (List.getElem?_eq_getElem (by omega))⟩
      have hfr := hown.frozenAt k
      have hst := hown.stored k (.int .i64 ns[k])
      have Hys := Lib.hid hys
      have Hyl := Lib.hid hyl
      have hklt : k < ys.length := by omega
      clear hys hyl hown hc
      go_wp2
      go_roundw
      case rel => exact ⟨k + 1, ys.set k (.int .i64 ns[k]), by omega, by go_num, by rw [set_take_num ys k _ hklt, Hys.out, take_next ns k hlt]; exact (intVals_snoc _ _).symm, by rw [List.length_set]; exact Hyl.out, hst.1, hb.setCell (by exact Nat.le_refl _) _⟩
      case measure => simp [intOf]; omega
    · have hk' : k = ns.length := by omega
      have Hk := Lib.hid hk'
      have Hys := Lib.hid hys
      have Hyl := Lib.hid hyl
      clear hk' hys hyl
      go_wp2
      go_ret
      have hfull : ys = intVals ns := by
        have h1 := Hys.out
        rw [Hk.out, List.take_length, List.take_of_length_le (by rw [Hyl.out]; exact Nat.le_refl _)] at h1
        exact h1
      rw [hfull] at hown
      exact ⟨rfl, hown, hb⟩
end Go.Proofs.YtpmmjaceehlpiaaGreatDoor
/-
  Heaps as values: two rows of numbers; an argument that is a heap, opened; the law's size guard, its copy, its comparison, its marks.
-/
namespace Go.Proofs.YtpmmjaceehlpiaaGreatDoor
open Go Go.Joins Go.ChangeShapes Go.WideShapes Go.ChangeAt Go.RowKit Go.Deep

abbrev heV (a : Option Addr) (n ca : Nat) (b : Option Addr) (m cb : Nat) : Value := .agg #[.slice a n ca, .slice b m cb]
theorem cellsB {W w1 : World} (hb : Below W.heap.size W w1) : (∀ b o, b < W.heap.size → w1.cell? ⟨b, o, none⟩ = W.cell? ⟨b, o, none⟩) ∧ (∀ b o, b < W.heap.size → w1.frozen? ⟨b, o, none⟩ = W.frozen? ⟨b, o, none⟩) :=
  ⟨fun b o h => hb.cell (p := ⟨b, o, none⟩) h, fun b o h => hb.frozen (p := ⟨b, o, none⟩) h⟩

/-- The two cells of a box. -/
abbrev Box2 (W : World) (g : Nat) (x y : Value) : Prop := W.cell? ⟨g, 0, none⟩ = some x ∧ W.cell? ⟨g, 1, none⟩ = some y
theorem Box2.keep {W W' : World} {g : Nat} {x y : Value} (h : Box2 W g x y) (hg : g < W.heap.size) (hb : Below W.heap.size W W') : Box2 W' g x y :=
  ⟨(hb.cell (p := ⟨g, 0, none⟩) hg).trans h.1, (hb.cell (p := ⟨g, 1, none⟩) hg).trans h.2⟩
theorem Box2.turn {lo hi : Nat} {W W' : World} {g : Nat} {x y : Value} (h : Box2 W g x y) (hg : g < W.heap.size) (t : Turn lo hi W W') (hd : g < lo ∨ hi ≤ g) : Box2 W' g x y :=
  ⟨(World.cell?_of_block (t.block g hg hd)).trans h.1, (World.cell?_of_block (t.block g hg hd)).trans h.2⟩
theorem one_box2 (w : World) (u0 u1 : Value) (t : TypeId) : ∃ W0, w.alloc (.cells #[u0, u1] t) = W0 ∧ Below w.heap.size w W0 ∧ w.heap.size < W0.heap.size ∧ Box2 W0 w.heap.size u0 u1 :=
  ⟨_, rfl, (Below.refl _ _).alloc (Nat.le_refl _) _, by simp, by simp [Box2, go_sem]⟩
theorem two_box2 (w : World) (u0 u1 v0 v1 : Value) (t t' : TypeId) : ∃ W0, (w.alloc (.cells #[u0, u1] t)).alloc (.cells #[v0, v1] t') = W0 ∧ Below w.heap.size w W0 ∧ w.heap.size + 1 < W0.heap.size ∧ Box2 W0 w.heap.size u0 u1 ∧ Box2 W0 (w.heap.size + 1) v0 v1 :=
  ⟨_, rfl, ((Below.refl _ _).alloc (Nat.le_refl _) _).alloc (by simp) _, by simp, by simp [Box2, go_sem], by simp [Box2, go_sem]⟩

/-- The rows of a heap: they may be read. -/
structure HeapAt (W : World) (a b : Option Addr) (vs zs : List Int) : Prop where
  v : Row W W.heap.size a (intVals vs)
  z : Row W W.heap.size b (intVals zs)
theorem HeapAt.again {W : World} {a b : Option Addr} {vs zs : List Int} (h : HeapAt W a b vs zs) (d : Nat) (os : Array Obj) : HeapAt (Go.Sort.grow (redrawn W d) os) a b vs zs := ⟨row_again h.v d os, row_again h.z d os⟩
theorem HeapAt.below {W W' : World} {B : Nat} {a b : Option Addr} {vs zs : List Int} (h : HeapAt W a b vs zs) (hb : Below B W W') (hB : W.heap.size ≤ B) : HeapAt W' a b vs zs :=
  ⟨(h.v.below (hb.mono hB)).grow hb.size, (h.z.below (hb.mono hB)).grow hb.size⟩
/-- A heap that a call made, in blocks from lo on, below hi: its rows may be written, and lie apart. -/
structure HeapIn (lo hi : Nat) (W : World) (a : Option Addr) (ca : Nat) (b : Option Addr) (cb : Nat) (vs zs : List Value) : Prop where
  v : OwnIn lo hi W 3 1 (.slice a vs.length ca) vs.length vs
  z : OwnIn lo hi W 3 1 (.slice b zs.length cb) zs.length zs
  apart : ∀ j, (Value.slice a vs.length ca).ownBlock = some j → (Value.slice b zs.length cb).ownBlock ≠ some j
section
variable {lo hi lo' hi' : Nat} {W W' : World} {a b : Option Addr} {ca cb : Nat}
theorem HeapIn.turn {vs zs : List Value} (h : HeapIn lo hi W a ca b cb vs zs) (t : Turn lo' hi' W W') (hd : hi ≤ lo' ∨ hi' ≤ lo) : HeapIn lo hi W' a ca b cb vs zs := ⟨h.v.turn t hd, h.z.turn t hd, h.apart⟩
theorem HeapIn.below {vs zs : List Value} (h : HeapIn lo hi W a ca b cb vs zs) (hb : Below W.heap.size W W') : HeapIn lo hi W' a ca b cb vs zs := ⟨h.v.below hb, h.z.below hb, h.apart⟩
theorem HeapIn.mono {vs zs : List Value} (h : HeapIn lo hi W a ca b cb vs zs) (h1 : lo' ≤ lo) (h2 : hi ≤ hi') (h3 : hi' ≤ W.heap.size) : HeapIn lo' hi' W a ca b cb vs zs := ⟨h.v.mono h1 h2 h3, h.z.mono h1 h2 h3, h.apart⟩
theorem HeapIn.rows {vs zs : List Int} (h : HeapIn lo hi W a ca b cb (intVals vs) (intVals zs)) : HeapAt W a b vs zs := ⟨h.v.row, h.z.row⟩
end

/-- A []int that lies in a struct, opened. -/
theorem open_nums_in {H : Type} {enc : TypeId × Value → H} {P : Program} {W : World} {t e : TypeId} {v : Value} {n : Nat} {y : DataW H × List MemPlace}
    (ht : P.underlying t = some (.slice e)) (he : P.underlying e = some (.int .i64)) (hc : P.cellsOf e = 1) (hlt : ∀ x ∈ y.2, x.block < W.heap.size)
    (h : DataW.trod enc P W 0 (fun _ => true) true n t [v] = some y) :
    ∃ (a : Option Addr) (cap : Nat) (ns : List Int), v = .slice a ns.length cap ∧ ns.length ≤ cap ∧ ns.length ≤ maxLen ∧ Row W W.heap.size a (intVals ns) ∧ (∀ n ∈ ns, -9223372036854775808 ≤ n ∧ n ≤ 9223372036854775807) := by
  rcases open_ints ht he hc h with ⟨hcs, hx⟩ | ⟨a, len, cap, ss, hcs, _, hl, hm, hz, hx, hcell, hws⟩
  · simp only [List.cons.injEq, and_true] at hcs
    subst hcs
    exact ⟨none, 0, [], rfl, Nat.le_refl _, Nat.zero_le _, Row.nil_, fun s hs => by simp at hs⟩
  · simp only [List.cons.injEq, and_true] at hcs
    subst hcs
    subst hx
    simp only [if_true] at hz
    have hlen : (ss.take len).length = len := by simp; omega
    refine ⟨some a, cap, ss.take len, by rw [hlen], by omega, by omega, ?_, fun s hs => i64_bounds (hws s (List.mem_of_mem_take hs))⟩
    intro k x hx
    obtain ⟨hk, rfl⟩ := List.getElem?_eq_some_iff.1 hx
    have hk' : k < len := by simpa [intVals, hz] using (Nat.lt_of_lt_of_le hk (by simp [intVals]; omega) : k < len)
    obtain ⟨b, off, spot⟩ := a
    have hspot : spot = none := by simpa [Addr.add] using World.cell?_spot (hcell 0 (by omega))
    subst hspot
    refine ⟨b, off, rfl, hlt (.cell b (off + 0)) (MemPlace.mem_row.2 ⟨0, by omega, by simp⟩), ?_⟩
    rw [← add_plain, hcell k (by omega)]
    have hk2 : k < ss.length := by omega
    simp [intVals, List.getD, hk2]

/-- What an argument's heap keeps. -/
structure HeapOk (W : World) (a b : Option Addr) (vs zs : List Int) : Prop where
  at_ : HeapAt W a b vs zs
  lv : vs.length ≤ maxLen
  lz : zs.length ≤ maxLen
  bv : ∀ n ∈ vs, -9223372036854775808 ≤ n ∧ n ≤ 9223372036854775807
  bz : ∀ n ∈ zs, -9223372036854775808 ≤ n ∧ n ≤ 9223372036854775807
/-- An argument that is a heap, opened. -/
theorem open_heap {H : Type} {enc : TypeId × Value → H} {P : Program} {W : World} {r : Reach} {b0 : Nat} {t : TypeId} {q0 q1 : Field} {v : Value} {d : DataW H} {p : List MemPlace} {e : TypeId}
    (hp : P.underlying t = some (.struct #[q0, q1])) (hone : oneCellFields P #[q0, q1] = true) (hCp : P.cellsOf t = 2)
    (hq0 : P.underlying q0.type = some (.slice e)) (hq1 : P.underlying q1.type = some (.slice e)) (he : P.underlying e = some (.int .i64)) (hce : P.cellsOf e = 1) (hlt : ∀ x ∈ p, x.block < W.heap.size)
    (hv : Value.okWide P W r b0 t v) (h : DataW.Trod enc P W 0 (fun _ => true) true t v d p) :
    ∃ (a : Option Addr) (ca : Nat) (vs : List Int) (b : Option Addr) (cb : Nat) (zs : List Int), v = heV a vs.length ca b zs.length cb ∧ HeapOk W a b vs zs := by
  obtain ⟨v0, v1, y0, y1, n, rfl, _, rfl, e0, e1⟩ := open_agg2 hp hone hCp hv h
  obtain ⟨a, ca, vs, rfl, _, l0, r0, w0⟩ := open_nums_in hq0 he hce (fun x hx => hlt x (by simp [hx])) e0
  obtain ⟨b, cb, zs, rfl, _, l1, r1, w1⟩ := open_nums_in hq1 he hce (fun x hx => hlt x (by simp [hx])) e1
  exact ⟨a, ca, vs, b, cb, zs, rfl, ⟨r0, r1⟩, l0, l1, w0, w1⟩

/-- The guard's answer over a row of numbers. -/
theorem szInts (a : Option Addr) (cap n : Nat) (left : Nat) (w : World) (hl : left ≤ 1099511627776) (hn : n ≤ maxLen) :
    Calls Tryz.prog 75 #[.slice a n cap, .int .i64 left] w fun e w' => ∃ r : Int, e = .returned (.int .i64 r) ∧ w = w' ∧ r ≤ left ∧ (0 ≤ r → (n : Int) + r = left) := by
  unfold maxLen at hn
  by_cases h0 : left < n
  · have hb : (left : Int) - n < 0 := by omega
    go_enter Tryz.func75, Tryz.ntmps75
    go_wp2
    go_ret
    exact ⟨-1, rfl, rfl, by omega, fun h => by omega⟩
  · have hb : ¬ (left : Int) - n < 0 := by omega
    go_enter Tryz.func75, Tryz.ntmps75
    go_wp2
    go_ret
    exact ⟨(left : Int) - n, rfl, rfl, by omega, fun h => by omega⟩
/-- .. over a heap. -/
theorem szHeap (a b : Option Addr) (ca cb n m : Nat) (left : Nat) (w : World) (hl : left ≤ 1099511627776) (hn : n ≤ maxLen) (hm : m ≤ maxLen) :
    Calls Tryz.prog 23 #[heV a n ca b m cb, .int .i64 left] w fun e w' => ∃ r : Int, e = .returned (.int .i64 r) ∧ Below w.heap.size w w' ∧ r ≤ left ∧ (0 ≤ r → (n : Int) + m + r = left) := by
  go_enter Tryz.func23, Tryz.ntmps23
  go_wp2_with fail
  obtain ⟨W0, hW0, hb0, hs0, hA0⟩ := one_box2 w (.slice a n ca) (.slice b m cb) 55
  rw [hW0]
  clear hW0
  obtain ⟨c0, c1⟩ := hA0
  refine (szInts a ca n left _ hl hn).mono ?_
  rintro e w1 ⟨r, rfl, rfl, hr, hok⟩
  by_cases hneg : r < 0
  · go_wp2
    go_ret
    exact ⟨-1, rfl, hb0, by omega, fun h => by omega⟩
  · obtain ⟨r', rfl⟩ : ∃ r' : Nat, r = (r' : Int) := ⟨r.toNat, by omega⟩
    have Hok := Lib.hid (hok (by omega))
    clear hok
    go_wp2_with fail
    refine (szInts b cb m r' _ (by omega) hm).mono ?_
    rintro e w1 ⟨r2, rfl, rfl, hr2, hok2⟩
    have Hok2 := Lib.hid hok2
    clear hok2
    by_cases hneg2 : r2 < 0
    · go_wp2
      go_ret
      exact ⟨-1, rfl, hb0, by omega, fun h => by omega⟩
    · go_wp2
      go_ret
      have h1 := Hok.out
      exact ⟨r2, rfl, hb0, by omega, fun h => by have h2 := Hok2.out h; omega⟩

/-- A copy of a heap: two new rows. -/
def CopyHeap (vs zs : List Int) (w : World) (e : Ending) (w' : World) : Prop :=
  ∃ a b, e = .returned (heV a vs.length vs.length b zs.length zs.length) ∧ HeapIn w.heap.size w'.heap.size w' a vs.length b zs.length (intVals vs) (intVals zs) ∧ Below w.heap.size w w'
set_option maxHeartbeats 800000 in
theorem toHeap (a b : Option Addr) (ca cb : Nat) (vs zs : List Int) (w : World) (hn : vs.length ≤ 1099511627776) (hm : zs.length ≤ 1099511627776) (h : HeapAt w a b vs zs) :
    Calls Tryz.prog 25 #[heV a vs.length ca b zs.length cb] w (CopyHeap vs zs w) := by
  have key : ∀ W, Below w.heap.size w W → HeapAt W a b vs zs := fun W hb => h.below hb (Nat.le_refl _)
  go_enter Tryz.func25, Tryz.ntmps25
  go_wp2_with fail
  refine (toInts a ca vs _ hn (key _ ?_).v).mono ?_
  · repeat (first | exact Below.refl _ _ | refine Below.alloc ?_ (by simp <;> omega) _ | refine Below.setCell ?_ (by simp <;> omega) _)
  rintro e w1 ⟨rfl, ho1, hb1⟩
  obtain ⟨hc, hf⟩ := cellsB hb1
  have hz := hb1.size
  simp at hz
  have hB1 : Below w.heap.size w w1 := by
    refine Below.trans ?_ (hb1.mono (by simp <;> omega))
    repeat (first | with_reducible exact Below.refl _ _ | with_reducible refine Below.alloc ?_ (by simp <;> omega) _ | with_reducible refine Below.setCell ?_ (by simp <;> omega) _)
  have Ho1 := Lib.hid ho1
  clear ho1
  go_wp2_with fail
  refine (toInts b cb zs _ hm (key _ ?_).z).mono ?_
  · repeat (first | with_reducible exact hB1 | with_reducible refine Below.alloc ?_ (by simp <;> omega) _ | with_reducible refine Below.setCell ?_ (by simp <;> omega) _)
  rintro e w2 ⟨rfl, ho2, hb2⟩
  obtain ⟨hc2, hf2⟩ := cellsB hb2
  have hz2 := hb2.size
  simp at hz2
  have d0 : w2.cell? ⟨w.heap.size + 1 + 1, 0, none⟩ = some (.slice (some ⟨w.heap.size + 1 + 1 + 1, 0, none⟩) vs.length vs.length) := by
    rw [hc2 _ _ (by simp; omega)]
    simp [hc, go_sem]
  have d1 : w2.cell? ⟨w.heap.size + 1 + 1, 1, none⟩ = some (.slice none 0 0) := by
    rw [hc2 _ _ (by simp; omega)]
    simp [hc, go_sem]
  have d3 : w2.frozen? ⟨w.heap.size + 1 + 1, 1, none⟩ = false := by
    rw [hf2 _ _ (by simp; omega)]
    simp [hf, go_sem]
  have r0 : w2.cell? ⟨w.heap.size + 1, 0, none⟩ = some (.slice none 0 0) := by
    rw [hc2 _ _ (by simp; omega)]
    simp [hc, go_sem]
  have r1 : w2.cell? ⟨w.heap.size + 1, 1, none⟩ = some (.slice none 0 0) := by
    rw [hc2 _ _ (by simp; omega)]
    simp [hc, go_sem]
  have r3 : ∀ o, w2.frozen? ⟨w.heap.size + 1, o, none⟩ = false := by
    intro o
    rw [hf2 _ _ (by simp; omega)]
    simp [hf, go_sem]
  have hB2 : Below w.heap.size w w2 := by
    refine Below.trans ?_ (hb2.mono (by simp <;> omega))
    repeat (first | with_reducible exact hB1 | with_reducible refine Below.setCell ?_ (by simp <;> omega) _)
  have hk2 : w2.ownsRow (w.heap.size + 1 + 1 + 1) 3 1 (.slice (some ⟨w.heap.size + 1 + 1 + 1, 0, none⟩) vs.length vs.length) vs.length (intVals vs) := by
    have h0 : w1.ownsRow (w.heap.size + 1 + 1 + 1) 3 1 (.slice (some ⟨w.heap.size + 1 + 1 + 1, 0, none⟩) vs.length vs.length) vs.length (intVals vs) := by simpa using Ho1.out
    have h1 := ownsRow_setCell_below h0 (a := ⟨w.heap.size + 1 + 1, 0, none⟩) (Nat.lt_succ_self _) (.slice (some ⟨w.heap.size + 1 + 1 + 1, 0, none⟩) vs.length vs.length)
    exact own_keeps h1 hb2
  have hE2 := ho2
  simp only [World.size_setCell] at hE2
  have hlt : w.heap.size + 1 + 1 + 1 < w1.heap.size := by
    have := Ho1.out.lt _ rfl
    simpa using this.2
  have HE2 := Lib.hid hE2
  have HK2 := Lib.hid hk2
  clear hE2 hk2 ho2 Ho1 hc hc2 hf hf2 hz hz2
  go_wp2
  refine bodyPost_ret (v := heV (some ⟨w.heap.size + 1 + 1 + 1, 0, none⟩) vs.length vs.length (some ⟨w1.heap.size, 0, none⟩) zs.length zs.length) (by simp [results, Tryz.results25, go_sem, r0, r1]) rfl ⟨_, _, rfl, ?_, ?_⟩
  · have e1 := intVals_length vs
    have e2 := intVals_length zs
    refine ⟨?_, ?_, ?_⟩
    · rw [e1]
      refine OwnIn.mono (OwnIn.of (lo := w.heap.size + 1 + 1 + 1) ?_) (by omega) (Nat.le_refl _) (Nat.le_refl _)
      repeat (first | with_reducible exact HK2.out | with_reducible refine ownsRow_setCell_below ?_ (by simp <;> omega) _)
    · rw [e2]
      refine OwnIn.mono (OwnIn.of (lo := w1.heap.size) ?_) (by omega) (Nat.le_refl _) (Nat.le_refl _)
      repeat (first | with_reducible exact HE2.out | with_reducible refine ownsRow_setCell_below ?_ (by simp <;> omega) _)
    · intro j h1 h2
      simp only [Value.ownBlock, Option.some.injEq] at h1 h2
      omega
  · repeat (first | with_reducible exact hB2 | with_reducible refine Below.setCell ?_ (by simp <;> omega) _)

/-- Two heaps that hold the same compare as equal. -/
theorem eqHeaps (a b c d : Option Addr) (ca cb cc cd : Nat) (vs zs : List Int) (w : World) (hn : vs.length ≤ maxLen) (hm : zs.length ≤ maxLen) (h : HeapAt w a b vs zs) (h' : HeapAt w c d vs zs) :
    Calls Tryz.prog 29 #[heV a vs.length ca b zs.length cb, heV c vs.length cc d zs.length cd] w (GaveX (.bool true) w) := by
  have key : ∀ W, Below w.heap.size w W → HeapAt W a b vs zs ∧ HeapAt W c d vs zs := fun W hb => ⟨h.below hb (Nat.le_refl _), h'.below hb (Nat.le_refl _)⟩
  go_enter Tryz.func29, Tryz.ntmps29
  go_wp2_with fail
  obtain ⟨W0, hW0, hb0, hs0, ⟨c0, c1⟩, ⟨c2, c3⟩⟩ := two_box2 w (.slice a vs.length ca) (.slice b zs.length cb) (.slice c vs.length cc) (.slice d zs.length cd) 30 30
  rw [hW0]
  clear hW0
  refine (eqInts a c ca cc vs _ hn (key _ hb0).1.v (key _ hb0).2.v).mono ?_
  rintro e w1 ⟨d1, rfl, rfl⟩
  have hB1 : Below w.heap.size w (W0.drewN d1) := below_draws hb0 _
  go_wp2_with fail
  refine (eqInts b d cb cd zs _ hm (key _ hB1).1.z (key _ hB1).2.z).mono ?_
  rintro e w2 ⟨d2, rfl, rfl⟩
  go_wp2
  go_ret
  exact ⟨rfl, below_draws hb0 _⟩

/-- Marks laid into a heap. -/
def MarkedHeap (lo hi k n m : Nat) (a b : Option Addr) (ca cb : Nat) (w : World) (e : Ending) (w' : World) : Prop :=
  e = .returned (.int .i64 ((k + n + m : Nat) : Int)) ∧ HeapIn lo hi w' a ca b cb (intVals (numsFrom k n)) (intVals (numsFrom (k + n) m)) ∧ Turn lo hi w w'
theorem markHeap (lo hi k n m : Nat) (a b : Option Addr) (ca cb : Nat) (xs ys : List Value) (w : World) (hxl : xs.length = n) (hyl : ys.length = m) (hn : n ≤ 54975581388) (hm : m ≤ 54975581388) (hk : k ≤ 54975581388) (h : HeapIn lo hi w a ca b cb xs ys) :
    Calls Tryz.prog 32 #[heV a n ca b m cb, .int .i64 k] w (MarkedHeap lo hi k n m a b ca cb w) := by
  subst hxl hyl
  have hhi := h.v.1
  go_enter Tryz.func32, Tryz.ntmps32
  go_wp2_with fail
  obtain ⟨W0, hW0, hb0, hs0, hA0⟩ := one_box2 w (.slice a xs.length ca) (.slice b ys.length cb) 30
  rw [hW0]
  clear hW0
  have h0 := h.below hb0
  refine (markInts lo k xs.length a ca xs _ (by omega) (by omega) h0.v.2.1).mono ?_
  rintro e w1 ⟨rfl, ho1, hg1⟩
  have t1 := h0.v.grows hg1
  have hA1 := hA0.turn (g := w.heap.size) hs0 t1 (.inr hhi)
  have hz1 : w1.ownsRow lo 3 1 (.slice b ys.length cb) ys.length ys := own_other h0.z.2.1 hg1 fun k hk e => h.apart k e.symm hk
  have T1 : Turn lo hi w w1 := (Turn.of_below hb0).trans t1
  obtain ⟨c0, c1⟩ := hA1
  have hap := h.apart
  have hlt := h.z.2.2
  have hlv := h.v.2.2
  clear hA0 h
  go_wp2_with fail
  have ek : (k : Int) + (xs.length : Int) = ((k + xs.length : Nat) : Int) := by omega
  rw [ek]
  refine (markInts lo (k + xs.length) ys.length b cb ys _ (by omega) (by omega) hz1).mono ?_
  rintro e w2 ⟨rfl, ho2, hg2⟩
  have T2 : Turn lo hi w w2 := T1.trans (Turn.of_grown hg2 fun k hk => ⟨(hz1.lt k hk).1, hlt k hk⟩)
  have ho1' := own_other ho1 hg2 fun k hk e => hap k hk e.symm
  clear ek
  go_wp2
  go_ret
  have e1 : (intVals (numsFrom k xs.length)).length = xs.length := by rw [intVals_length, numsFrom_length]
  have e2 : (intVals (numsFrom (k + xs.length) ys.length)).length = ys.length := by rw [intVals_length, numsFrom_length]
  refine ⟨rfl, ⟨?_, ?_, ?_⟩, T2⟩
  · rw [e1]
    exact ⟨Nat.le_trans hhi T2.size, ho1', hlv⟩
  · rw [e2]
    exact ⟨Nat.le_trans hhi T2.size, ho2, hlt⟩
  · rw [e1, e2]
    exact hap

theorem HeapIn.marks {lo hi k n m : Nat} {W : World} {a b : Option Addr} {ca cb : Nat} (h : HeapIn lo hi W a ca b cb (intVals (numsFrom k n)) (intVals (numsFrom (k + n) m))) : HeapAt W a b (numsFrom k n) (numsFrom (k + n) m) := h.rows
/-- All marks of a heap are there. -/
theorem heldHeap (k n m : Nat) (a b : Option Addr) (ca cb : Nat) (w : World) (hn : n ≤ 54975581388) (hm : m ≤ 54975581388) (hk : k ≤ 54975581388) (h : HeapAt w a b (numsFrom k n) (numsFrom (k + n) m)) :
    Calls Tryz.prog 82 #[heV a n ca b m cb, .int .i64 k] w (GaveX (.int .i64 ((k + n + m : Nat) : Int)) w) := by
  go_enter Tryz.func82, Tryz.ntmps82
  go_wp2_with fail
  obtain ⟨W0, hW0, hb0, hs0, ⟨c0, c1⟩⟩ := one_box2 w (.slice a n ca) (.slice b m cb) 30
  rw [hW0]
  clear hW0
  have h0 := h.below hb0 (Nat.le_refl _)
  refine (heldInts k n a ca _ (by omega) (by omega) h0.v).mono ?_
  rintro e w1 ⟨rfl, rfl⟩
  have q0 : ¬ ((k + n : Nat) : Int) < 0 := by omega
  go_wp2_with fail
  refine (heldInts (k + n) m b cb _ (by omega) (by omega) h0.z).mono ?_
  rintro e w2 ⟨rfl, rfl⟩
  have q1 : ¬ ((k + n + m : Nat) : Int) < 0 := by omega
  go_wp2
  go_ret
  exact ⟨rfl, hb0⟩

/-- A row of numbers, compared, marked, looked at: in the words of intervals. -/
theorem eqRow (a b : Option Addr) (ca cb : Nat) (ns : List Int) (w : World) (hn : ns.length ≤ maxLen) (ha : Row w w.heap.size a (intVals ns)) (hb : Row w w.heap.size b (intVals ns)) :
    Calls Tryz.prog 30 #[.slice a ns.length ca, .slice b ns.length cb] w (GaveX (.bool true) w) :=
  (eqInts a b ca cb ns w hn ha hb).mono fun _ _ ⟨n, he, hw⟩ => ⟨he, hw ▸ below_draws (Below.refl _ _) n⟩
theorem markRow (lo hi k n : Nat) (a : Option Addr) (ca : Nat) (xs : List Value) (w : World) (hn : n ≤ 54975581388) (hk : k ≤ 54975581388) (h : OwnIn lo hi w 3 1 (.slice a n ca) n xs) :
    Calls Tryz.prog 33 #[.slice a n ca, .int .i64 k] w fun e w' => e = .returned (.int .i64 ((k + n : Nat) : Int)) ∧ OwnIn lo hi w' 3 1 (.slice a n ca) n (intVals (numsFrom k n)) ∧ Turn lo hi w w' :=
  (markInts lo k n a ca xs w (by omega) (by omega) h.2.1).mono fun _ _ ⟨he, ho, hg⟩ => ⟨he, h.again (Nat.le_trans h.1 hg.size) ho, h.grows hg⟩
theorem heldRow (k n : Nat) (a : Option Addr) (ca : Nat) (w : World) (hn : n ≤ 54975581388) (hk : k ≤ 54975581388) (h : Row w w.heap.size a (intVals (numsFrom k n))) :
    Calls Tryz.prog 83 #[.slice a n ca, .int .i64 k] w (GaveX (.int .i64 ((k + n : Nat) : Int)) w) :=
  (heldInts k n a ca w (by omega) (by omega) h).mono fun _ _ ⟨he, hw⟩ => ⟨he, hw ▸ Below.refl _ _⟩
end Go.Proofs.YtpmmjaceehlpiaaGreatDoor
/-
  Cells that are met by following: what a heap is, in plain words: chains, the order in which cells are met, new numbers. Nothing here knows of the program.
-/
namespace Go.Proofs.YtpmmjaceehlpiaaGreatDoor
open Go Go.RowKit

/-- Is the number a cell? -/
def isC (zs : List Int) (c : Int) : Bool := decide (0 ≤ c) && decide (c < (zs.length : Int))
def nextC (zs : List Int) (c : Int) : Int := zs.getD c.toNat (-1)
theorem isC_iff {zs : List Int} {c : Int} : isC zs c = true ↔ 0 ≤ c ∧ c < (zs.length : Int) := by simp [isC]
theorem nextC_at {zs : List Int} {k : Nat} (h : k < zs.length) : nextC zs (k : Int) = zs[k] := by simp [nextC, h]
theorem isC_nat {zs : List Int} {c : Int} (h : isC zs c = true) : ∃ k : Nat, c = (k : Int) ∧ k < zs.length := by
  have := isC_iff.1 h
  exact ⟨c.toNat, by omega, by omega⟩
theorem isC_of {zs : List Int} {k : Nat} (h : k < zs.length) : isC zs (k : Int) = true := isC_iff.2 ⟨by omega, by omega⟩
theorem isC_minus (zs : List Int) : isC zs (-1) = false := by simp [isC]

/-- The cells met from c on, one after the other, n at most. -/
def chain (zs : List Int) : Nat → Int → List Int
  | 0, _ => []
  | n + 1, c => if isC zs c = true then c :: chain zs n (nextC zs c) else []
/-- Does the way from c end at what is neither a cell nor null? -/
def badEnd (zs : List Int) : Nat → Int → Bool
  | 0, c => decide (c ≠ -1) && !isC zs c
  | n + 1, c => if isC zs c = true then badEnd zs n (nextC zs c) else decide (c ≠ -1)
/-- Laid behind what is there, each once. -/
def addAll : List Int → List Int → List Int
  | o, [] => o
  | o, c :: cs => addAll (if c ∈ o then o else o ++ [c]) cs

theorem addAll_append (o a b : List Int) : addAll o (a ++ b) = addAll (addAll o a) b := by
  induction a generalizing o with
  | nil => rfl
  | cons x xs ih => simp only [List.cons_append, addAll]; exact ih _
theorem addAll_mem {x : Int} : ∀ {cs o : List Int}, x ∈ addAll o cs ↔ x ∈ o ∨ x ∈ cs
  | [], o => by simp [addAll]
  | c :: cs, o => by
    simp only [addAll]
    rw [addAll_mem]
    by_cases h : c ∈ o
    · simp only [h, if_true, List.mem_cons]
      constructor
      · rintro (h1 | h1)
        · exact .inl h1
        · exact .inr (.inr h1)
      · rintro (h1 | rfl | h1)
        · exact .inl h1
        · exact .inl h
        · exact .inr h1
    · simp [h, or_assoc]
theorem addAll_sub : ∀ {cs o : List Int}, (∀ x ∈ cs, x ∈ o) → addAll o cs = o
  | [], _, _ => rfl
  | c :: cs, o, h => by
    simp only [addAll, h c (by simp), if_true]
    exact addAll_sub fun x hx => h x (by simp [hx])
theorem nodup_snoc {o : List Int} {c : Int} (h : o.Nodup) (hno : c ∉ o) : (o ++ [c]).Nodup := by
  rw [List.nodup_append]
  exact ⟨h, by simp, fun a ha b hb => by simp at hb; subst hb; exact fun e => hno (e ▸ ha)⟩
theorem addAll_nodup : ∀ {cs o : List Int}, o.Nodup → (addAll o cs).Nodup
  | [], _, h => h
  | c :: cs, o, h => by
    simp only [addAll]
    refine addAll_nodup ?_
    split
    · exact h
    · rename_i hc
      exact nodup_snoc h hc
/-- Laying a list behind, after having laid it behind nothing: the same. -/
theorem addAll_addAll (o : List Int) : ∀ (cs a : List Int), addAll o (addAll a cs) = addAll (addAll o a) cs
  | [], a => rfl
  | c :: cs, a => by
    simp only [addAll]
    rw [addAll_addAll o cs]
    congr 1
    by_cases h : c ∈ a
    · rw [if_pos h, if_pos (addAll_mem.2 (.inr h))]
    · rw [if_neg h, addAll_append]
      rfl
theorem addAll_map {f : Int → Int} : ∀ {cs o : List Int}, (∀ x y, (x ∈ o ∨ x ∈ cs) → (y ∈ o ∨ y ∈ cs) → f x = f y → x = y) → addAll (o.map f) (cs.map f) = (addAll o cs).map f
  | [], _, _ => rfl
  | c :: cs, o, h => by
    simp only [List.map_cons, addAll]
    by_cases hc : c ∈ o
    · rw [if_pos hc, if_pos (List.mem_map.2 ⟨c, hc, rfl⟩)]
      exact addAll_map fun x y hx hy => h x y (hx.imp id (by simp +contextual)) (hy.imp id (by simp +contextual))
    · have hno : f c ∉ o.map f := fun hm => by
        obtain ⟨y, hy, e⟩ := List.mem_map.1 hm
        exact hc (h y c (.inl hy) (.inr (by simp)) e ▸ hy)
      rw [if_neg hc, if_neg hno]
      have : o.map f ++ [f c] = (o ++ [c]).map f := by simp
      rw [this]
      refine addAll_map fun x y hx hy => h x y ?_ ?_
      · rcases hx with hx | hx
        · rcases List.mem_append.1 hx with hx | hx
          · exact .inl hx
          · exact .inr (by simp at hx; simp [hx])
        · exact .inr (by simp [hx])
      · rcases hy with hx | hx
        · rcases List.mem_append.1 hx with hx | hx
          · exact .inl hx
          · exact .inr (by simp at hx; simp [hx])
        · exact .inr (by simp [hx])

theorem chain_cells {zs : List Int} : ∀ {n : Nat} {c x : Int}, x ∈ chain zs n c → isC zs x = true
  | 0, _, _, h => by simp [chain] at h
  | n + 1, c, x, h => by
    simp only [chain] at h
    split at h
    · rename_i hc
      rcases List.mem_cons.1 h with rfl | h
      · exact hc
      · exact chain_cells h
    · simp at h
/-- What holds at the first cell and goes on from cell to next cell holds all along. -/
theorem chain_all {zs : List Int} {Q : Int → Prop} (hq : ∀ x, isC zs x = true → Q x → isC zs (nextC zs x) = true → Q (nextC zs x)) : ∀ {n : Nat} {c x : Int}, (isC zs c = true → Q c) → x ∈ chain zs n c → Q x
  | 0, _, _, _, h => by simp [chain] at h
  | n + 1, c, x, h0, h => by
    simp only [chain] at h
    split at h
    · rename_i hc
      rcases List.mem_cons.1 h with rfl | h
      · exact h0 hc
      · exact chain_all hq (fun hn => hq c hc (h0 hc) hn) h
    · simp at h

theorem nodup_sub_length : ∀ {a b : List Int}, a.Nodup → (∀ x ∈ a, x ∈ b) → a.length ≤ b.length
  | [], _, _, _ => by simp
  | x :: a, b, hn, h => by
    have hx : x ∈ b := h x (by simp)
    have h1 := nodup_sub_length (a := a) (b := b.erase x) (List.nodup_cons.1 hn).2 (fun y hy => by
      have hne : y ≠ x := fun e => (List.nodup_cons.1 hn).1 (e ▸ hy)
      exact (List.mem_erase_of_ne hne).2 (h y (by simp [hy])))
    rw [List.length_erase_of_mem hx] at h1
    have := List.length_pos_of_mem hx
    simp only [List.length_cons]
    omega
/-- The numbers below n. -/
def upTo (n : Nat) : List Int := (List.range n).map fun (i : Nat) => (i : Int)
theorem upTo_length (n : Nat) : (upTo n).length = n := by simp [upTo]
theorem upTo_at {n k : Nat} (_ : k < n) (h' : k < (upTo n).length) : (upTo n)[k] = (k : Int) := by simp [upTo]
theorem upTo_mem {n : Nat} {x : Int} : x ∈ upTo n ↔ 0 ≤ x ∧ x < (n : Int) := by
  simp only [upTo, List.mem_map, List.mem_range]
  constructor
  · rintro ⟨k, hk, rfl⟩
    omega
  · intro h
    exact ⟨x.toNat, by omega, by omega⟩
theorem upTo_nodup (n : Nat) : (upTo n).Nodup := by
  unfold upTo
  rw [List.nodup_iff_pairwise_ne, List.pairwise_map]
  exact (List.nodup_iff_pairwise_ne.1 List.nodup_range).imp fun h e => h (by omega)
theorem nodup_cells {zs : List Int} {o : List Int} (hn : o.Nodup) (hc : ∀ x ∈ o, isC zs x = true) : o.length ≤ zs.length := by
  have := nodup_sub_length (b := upTo zs.length) hn fun x hx => upTo_mem.2 (isC_iff.1 (hc x hx))
  rwa [upTo_length] at this
theorem nodup_room {S o : List Int} {c : Int} (hn : o.Nodup) (hc : ∀ x ∈ o, x ∈ S) (h : c ∈ S) (hno : c ∉ o) : o.length < S.length := by
  have := nodup_sub_length (a := c :: o) (b := S) (List.nodup_cons.2 ⟨hno, hn⟩) (fun x hx => by rcases List.mem_cons.1 hx with rfl | hx; exact h; exact hc x hx)
  simpa [Nat.succ_le_iff] using this

/-- From each cell on, what follows is there too. -/
def closedO (zs o : List Int) : Prop := ∀ x ∈ o, isC zs (nextC zs x) = true → nextC zs x ∈ o
/-- .. or is c, which is looked at next. -/
def closedTo (zs o : List Int) (c : Int) : Prop := ∀ x ∈ o, isC zs (nextC zs x) = true → nextC zs x ∈ o ∨ nextC zs x = c
structure OrdOk (zs o : List Int) : Prop where
  nodup : o.Nodup
  cells : ∀ x ∈ o, isC zs x = true
theorem OrdOk.nil_ {zs : List Int} : OrdOk zs [] := ⟨by simp, by simp⟩
theorem OrdOk.len {zs o : List Int} (h : OrdOk zs o) : o.length ≤ zs.length := nodup_cells h.nodup h.cells
theorem OrdOk.snoc {zs o : List Int} {c : Int} (h : OrdOk zs o) (hc : isC zs c = true) (hno : c ∉ o) : OrdOk zs (o ++ [c]) := by
  refine ⟨nodup_snoc h.nodup hno, fun x hx => ?_⟩
  rcases List.mem_append.1 hx with hx | hx
  · exact h.cells x hx
  · simp at hx; subst hx; exact hc
theorem OrdOk.addAll {zs o cs : List Int} (h : OrdOk zs o) (hc : ∀ x ∈ cs, isC zs x = true) : OrdOk zs (addAll o cs) :=
  ⟨addAll_nodup h.nodup, fun x hx => by rcases addAll_mem.1 hx with hx | hx; exact h.cells x hx; exact hc x hx⟩
theorem OrdOk.room {zs o : List Int} {c : Int} (h : OrdOk zs o) (hc : isC zs c = true) (hno : c ∉ o) : o.length < zs.length := by
  have := nodup_room (S := upTo zs.length) h.nodup (fun x hx => upTo_mem.2 (isC_iff.1 (h.cells x hx))) (upTo_mem.2 (isC_iff.1 hc)) hno
  rwa [upTo_length] at this

theorem closedO.to {zs o : List Int} {c : Int} (h : closedO zs o) : closedTo zs o c := fun x hx hn => .inl (h x hx hn)
theorem closedTo_here {zs o : List Int} {c : Int} (h : closedTo zs o c) (hc : c ∈ o) : closedO zs o := fun x hx hn => by
  rcases h x hx hn with h | h
  · exact h
  · rw [h]; exact hc
theorem closedTo_step {zs o : List Int} {c : Int} (h : closedTo zs o c) : closedTo zs (o ++ [c]) (nextC zs c) := fun x hx hn => by
  rcases List.mem_append.1 hx with hx | hx
  · rcases h x hx hn with h | h
    · exact .inl (by simp [h])
    · exact .inl (by simp [h])
  · simp at hx
    subst hx
    exact .inr rfl
theorem closedTo_stop {zs o : List Int} {c : Int} (h : closedTo zs o c) (hc : isC zs c = false) : closedO zs o := fun x hx hn => by
  rcases h x hx hn with h | h
  · exact h
  · rw [h, hc] at hn; cases hn

theorem chain_in {zs o : List Int} (h : closedO zs o) {n : Nat} {c x : Int} (hc : isC zs c = true → c ∈ o) (hx : x ∈ chain zs n c) : x ∈ o := chain_all (Q := fun x => x ∈ o) (fun y _ hy hn => h y hy hn) hc hx
theorem badEnd_no {zs : List Int} : ∀ {n : Nat} {c : Int}, isC zs c = false → badEnd zs n c = decide (c ≠ -1)
  | 0, c, h => by simp [badEnd, h]
  | n + 1, c, h => by simp [badEnd, h]
theorem chain_no {zs : List Int} : ∀ {n : Nat} {c : Int}, isC zs c = false → chain zs n c = []
  | 0, c, h => rfl
  | n + 1, c, h => by simp [chain, h]

/-- How many steps are allowed makes no odds, once they are enough. -/
theorem fuel_free {zs S : List Int} (hS : closedO zs S) : ∀ {n m : Nat} {o : List Int} {c : Int}, o.Nodup → (∀ x ∈ o, x ∈ S) → closedTo zs o c → (isC zs c = true → c ∈ S) → S.length ≤ o.length + n → S.length ≤ o.length + m → addAll o (chain zs n c) = addAll o (chain zs m c) := by
  intro n
  induction n with
  | zero =>
    intro m o c hn ho ht hc h1 _
    by_cases hi : isC zs c = true
    · have hco : c ∈ o := Classical.byContradiction fun hno => by have := nodup_room hn ho (hc hi) hno; omega
      have hcl := closedTo_here ht hco
      exact (addAll_sub fun x hx => chain_in hcl (fun _ => hco) hx).symm
    · simp only [Bool.not_eq_true] at hi
      rw [chain_no hi, chain_no hi]
  | succ n ih =>
    intro m o c hn ho ht hc h1 h2
    by_cases hi : isC zs c = true
    · by_cases hco : c ∈ o
      · have hcl := closedTo_here ht hco
        rw [addAll_sub fun x hx => chain_in hcl (fun _ => hco) hx, addAll_sub fun x hx => chain_in hcl (fun _ => hco) hx]
      · have hr := nodup_room hn ho (hc hi) hco
        obtain ⟨m, rfl⟩ : ∃ k, m = k + 1 := ⟨m - 1, by omega⟩
        simp only [chain, hi, if_true, addAll, hco, if_false]
        refine ih (nodup_snoc hn hco) (fun x hx => ?_) (closedTo_step ht) (fun hx => hS c (hc hi) hx) (by simp; omega) (by simp; omega)
        rcases List.mem_append.1 hx with hx | hx
        · exact ho x hx
        · simp at hx; subst hx; exact hc hi
    · simp only [Bool.not_eq_true] at hi
      rw [chain_no hi, chain_no hi]

/-- Elements that are cells or null. -/
def goodB (zs l : List Int) : Bool := l.all fun x => decide (x = -1) || isC zs x
theorem goodB_at {zs l : List Int} (h : goodB zs l = true) {x : Int} (hx : x ∈ l) : x = -1 ∨ isC zs x = true := by
  have := List.all_eq_true.1 h x hx
  simpa using this
theorem goodB_bad {zs l : List Int} {k : Nat} (h : k < l.length) (h1 : l[k] ≠ -1) (h2 : isC zs l[k] = false) : goodB zs l = false := by
  rw [goodB, List.all_eq_false]
  exact ⟨l[k], List.getElem_mem h, by simp [h1, h2]⟩
theorem goodB_next {zs l : List Int} {k : Nat} (h : k < l.length) (ha : goodB zs (l.take k) = true) (hk : l[k] = -1 ∨ isC zs l[k] = true) : goodB zs (l.take (k + 1)) = true := by
  rw [goodB, take_next l k h, List.all_append]
  rw [goodB] at ha
  rw [ha]
  rcases hk with hk | hk <;> simp [hk]
theorem nextC_good {zs : List Int} (h : goodB zs zs = true) {c : Int} (hc : isC zs c = true) : nextC zs c = -1 ∨ isC zs (nextC zs c) = true := by
  obtain ⟨k, rfl, hk⟩ := isC_nat hc
  rw [nextC_at hk]
  exact goodB_at h (List.getElem_mem hk)
theorem badEnd_good {zs : List Int} (h : goodB zs zs = true) : ∀ {n : Nat} {c : Int}, c = -1 ∨ isC zs c = true → badEnd zs n c = false
  | 0, c, hc => by
    rcases hc with rfl | hc
    · simp [badEnd]
    · simp [badEnd, hc]
  | n + 1, c, hc => by
    simp only [badEnd]
    split
    · rename_i hi
      exact badEnd_good h (nextC_good h hi)
    · rename_i hi
      rcases hc with rfl | hc
      · simp
      · exact absurd hc hi
/-- A cell whose next one is wrong, met on the way: the way ends badly. -/
theorem badEnd_met {zs : List Int} {x : Int} (h1 : nextC zs x ≠ -1) (h2 : isC zs (nextC zs x) = false) : ∀ {n : Nat} {c : Int}, x ∈ chain zs n c → badEnd zs n c = true
  | 0, _, h => by simp [chain] at h
  | n + 1, c, h => by
    simp only [chain] at h
    split at h
    · rename_i hc
      simp only [badEnd, hc, if_true]
      rcases List.mem_cons.1 h with rfl | h
      · rw [badEnd_no h2]; simpa using h1
      · exact badEnd_met h1 h2 h
    · simp at h

/-- The walk from a cell: what is there, and where it stands; the last words stay the same. -/
structure Going (zs o0 : List Int) (c0 : Int) (o : List Int) (c : Int) (n : Nat) : Prop where
  ok : OrdOk zs o
  to : closedTo zs o c
  room : zs.length ≤ o.length + n
  all : addAll o (chain zs n c) = addAll o0 (chain zs zs.length c0)
  ring : o0 = [] → ∀ x ∈ o, nextC zs x ∈ o ∨ nextC zs x = c
  bad : badEnd zs n c = badEnd zs zs.length c0
theorem Going.start {zs o : List Int} {c : Int} (h : OrdOk zs o) (hc : closedO zs o) : Going zs o c o c zs.length := ⟨h, hc.to, by omega, rfl, (fun e x hx => by subst e; simp at hx), rfl⟩
theorem Going.step {zs o0 o : List Int} {c0 c : Int} {n : Nat} (h : Going zs o0 c0 o c n) (hc : isC zs c = true) (hno : c ∉ o) : ∃ m, n = m + 1 ∧ Going zs o0 c0 (o ++ [c]) (nextC zs c) m := by
  have hr := h.ok.room hc hno
  have := h.room
  obtain ⟨m, rfl⟩ : ∃ m, n = m + 1 := ⟨n - 1, by omega⟩
  refine ⟨m, rfl, h.ok.snoc hc hno, closedTo_step h.to, by simp; omega, ?_, fun e x hx => ?_, ?_⟩
  · rw [← h.all]
    simp [chain, hc, addAll, hno]
  · rcases List.mem_append.1 hx with hx | hx
    · rcases h.ring e x hx with h | h
      · exact .inl (by simp [h])
      · exact .inl (by simp [h])
    · simp at hx
      subst hx
      exact .inr rfl
  · rw [← h.bad]
    simp [badEnd, hc]
theorem ring_good {zs o : List Int} (ho : ∀ x ∈ o, isC zs x = true) (h : ∀ x ∈ o, nextC zs x ∈ o) : ∀ {n : Nat} {c : Int}, c ∈ o → badEnd zs n c = false
  | 0, c, hc => by simp [badEnd, ho c hc]
  | n + 1, c, hc => by
    simp only [badEnd, ho c hc, if_true]
    exact ring_good ho h (h c hc)
theorem Going.stop {zs o0 o : List Int} {c0 c : Int} {n : Nat} (h : Going zs o0 c0 o c n) (hs : isC zs c = false ∨ c ∈ o) :
    addAll o0 (chain zs zs.length c0) = o ∧ closedO zs o ∧ (o0 = [] → (decide (c ≠ -1) && !isC zs c) = badEnd zs zs.length c0) := by
  rcases hs with hs | hs
  · exact ⟨by rw [← h.all, chain_no hs]; rfl, closedTo_stop h.to hs, fun _ => by rw [← h.bad, badEnd_no hs, hs]; simp⟩
  · have hcl := closedTo_here h.to hs
    refine ⟨by rw [← h.all, addAll_sub fun x hx => chain_in hcl (fun _ => hs) hx], hcl, fun e => ?_⟩
    rw [← h.bad, h.ok.cells c hs, ring_good h.ok.cells (fun x hx => by rcases h.ring e x hx with h1 | h1; exact h1; rw [h1]; exact hs) hs]
    simp
theorem Going.closed {zs o0 : List Int} {c0 : Int} : ∀ {n : Nat} {o : List Int} {c : Int}, Going zs o0 c0 o c n → closedO zs (addAll o0 (chain zs zs.length c0))
  | n, o, c, h => by
    by_cases hs : isC zs c = false ∨ c ∈ o
    · rw [(h.stop hs).1]
      exact (h.stop hs).2.1
    · simp only [not_or, Bool.not_eq_false] at hs
      obtain ⟨m, rfl, h'⟩ := h.step hs.1 hs.2
      exact h'.closed
  termination_by n => n

/-- The cells that are met from c on; none where the way ends badly. -/
def followed (zs : List Int) (c : Int) : List Int := if badEnd zs zs.length c = true then [] else addAll [] (chain zs zs.length c)
theorem followed_ok (zs : List Int) (c : Int) : OrdOk zs (followed zs c) := by
  unfold followed
  split
  · exact OrdOk.nil_
  · exact OrdOk.nil_.addAll fun x hx => chain_cells hx
/-- The cells in the order in which they are met from the variables on. -/
def orderFrom (zs : List Int) : List Int → List Int → List Int
  | o, [] => o
  | o, v :: vs => orderFrom zs (addAll o (chain zs zs.length v)) vs
def order (vs zs : List Int) : List Int := orderFrom zs [] vs
def orderS (zs : List Int) : List Int → List Int → List Int
  | o, [] => o
  | o, v :: vs => orderS zs (addAll o (followed zs v)) vs

structure OrdEnd (zs o : List Int) : Prop extends OrdOk zs o where
  closed : closedO zs o
theorem OrdEnd.nil_ {zs : List Int} : OrdEnd zs [] := ⟨OrdOk.nil_, fun _ hx => by simp at hx⟩
theorem OrdEnd.next {zs o : List Int} (h : OrdEnd zs o) (c : Int) : OrdEnd zs (addAll o (chain zs zs.length c)) :=
  ⟨h.toOrdOk.addAll fun _ hx => chain_cells hx, (Going.start h.toOrdOk h.closed).closed⟩
theorem orderFrom_end {zs : List Int} : ∀ {vs o : List Int}, OrdEnd zs o → OrdEnd zs (orderFrom zs o vs)
  | [], _, h => h
  | v :: vs, _, h => orderFrom_end (vs := vs) (h.next v)
theorem order_end (vs zs : List Int) : OrdEnd zs (order vs zs) := orderFrom_end OrdEnd.nil_
theorem orderFrom_mono {zs : List Int} {x : Int} : ∀ {vs o : List Int}, x ∈ o → x ∈ orderFrom zs o vs
  | [], _, h => h
  | _ :: vs, _, h => orderFrom_mono (vs := vs) (addAll_mem.2 (.inl h))
theorem chain_here {zs : List Int} {c : Int} (h : isC zs c = true) : c ∈ chain zs zs.length c := by
  obtain ⟨k, rfl, hk⟩ := isC_nat h
  obtain ⟨n, hn⟩ : ∃ n, zs.length = n + 1 := ⟨zs.length - 1, by omega⟩
  rw [hn]
  simp [chain, h]
theorem orderFrom_vars {zs : List Int} {v : Int} (hv : isC zs v = true) : ∀ {vs o : List Int}, v ∈ vs → v ∈ orderFrom zs o vs
  | [], _, h => by simp at h
  | w :: vs, o, h => by
    rcases List.mem_cons.1 h with rfl | h
    · exact orderFrom_mono (vs := vs) (addAll_mem.2 (.inr (chain_here hv)))
    · exact orderFrom_vars hv (vs := vs) h
theorem order_vars {vs zs : List Int} {v : Int} (hv : isC zs v = true) (h : v ∈ vs) : v ∈ order vs zs := orderFrom_vars hv h
/-- What holds of the variables' cells and goes on from cell to next cell holds of all that are met. -/
theorem orderFrom_all {zs : List Int} {Q : Int → Prop} (hq : ∀ x, isC zs x = true → Q x → isC zs (nextC zs x) = true → Q (nextC zs x)) : ∀ {vs o : List Int}, (∀ x ∈ o, Q x) → (∀ v ∈ vs, isC zs v = true → Q v) → ∀ x ∈ orderFrom zs o vs, Q x
  | [], _, ho, _ => ho
  | v :: vs, o, ho, hv => orderFrom_all (vs := vs) hq (fun x hx => by
      rcases addAll_mem.1 hx with hx | hx
      · exact ho x hx
      · exact chain_all hq (fun h => hv v (by simp) h) hx) (fun w hw => hv w (by simp [hw]))
theorem followed_good {zs : List Int} (h : goodB zs zs = true) {c : Int} (hc : c = -1 ∨ isC zs c = true) : followed zs c = addAll [] (chain zs zs.length c) := by
  rw [followed, badEnd_good h hc]
  rfl
theorem addAll_followed {zs : List Int} (h : goodB zs zs = true) (o : List Int) (v : Int) : addAll o (followed zs v) = addAll o (chain zs zs.length v) := by
  by_cases hc : v = -1 ∨ isC zs v = true
  · rw [followed_good h hc, addAll_addAll]
    rfl
  · simp only [not_or, Bool.not_eq_true] at hc
    rw [chain_no hc.2, followed, badEnd_no hc.2]
    simp [hc.1]
theorem orderS_good {zs : List Int} (h : goodB zs zs = true) : ∀ {vs o : List Int}, orderS zs o vs = orderFrom zs o vs
  | [], _ => rfl
  | v :: vs, o => by
    rw [orderS, orderFrom, addAll_followed h]
    exact orderS_good h
theorem orderS_ok {zs : List Int} : ∀ {vs o : List Int}, OrdOk zs o → OrdOk zs (orderS zs o vs)
  | [], _, h => h
  | v :: vs, _, h => orderS_ok (vs := vs) (h.addAll (followed_ok zs v).cells)
theorem orderS_all {zs : List Int} {Q : Int → Prop} (hq : ∀ v, ∀ x ∈ followed zs v, Q x) : ∀ {vs o : List Int}, (∀ x ∈ o, Q x) → ∀ x ∈ orderS zs o vs, Q x
  | [], _, ho => ho
  | v :: vs, o, ho => orderS_all (vs := vs) hq (fun x hx => by
      rcases addAll_mem.1 hx with hx | hx
      · exact ho x hx
      · exact hq v x hx)

/-- Is there a cell that no variable reaches? -/
def leakB (vs zs : List Int) : Bool := decide ((orderS zs [] vs).length < zs.length)
theorem leak_bad {vs zs : List Int} (h : goodB zs zs = false) : leakB vs zs = true := by
  rw [goodB, List.all_eq_false] at h
  obtain ⟨y, hy, hb⟩ := h
  simp at hb
  obtain ⟨k, hk, rfl⟩ := List.getElem_of_mem hy
  have hx : ((k : Int)) ∉ orderS zs [] vs := fun hm => by
    refine orderS_all (Q := fun x => x ≠ (k : Int)) (fun v x hx e => ?_) (by simp) _ hm rfl
    subst e
    unfold followed at hx
    split at hx
    · simp at hx
    · rename_i hbe
      rcases addAll_mem.1 hx with hx | hx
      · simp at hx
      · exact hbe (badEnd_met (by rw [nextC_at hk]; exact hb.1) (by rw [nextC_at hk]; exact hb.2) hx)
  have := (orderS_ok (vs := vs) OrdOk.nil_).room (isC_of hk) hx
  simpa [leakB] using this
theorem leak_good {vs zs : List Int} (h : goodB zs zs = true) : leakB vs zs = decide ((order vs zs).length < zs.length) := by
  rw [leakB, orderS_good h]
  rfl

/-- The new number of a cell. -/
def num (o : List Int) (c : Int) : Int := (posFrom c 0 o).headD (-1)
theorem posFrom_none {n : Int} : ∀ {zs : List Int} {k : Nat}, n ∉ zs → posFrom n k zs = []
  | [], _, _ => rfl
  | z :: zs, k, h => by
    simp only [List.mem_cons, not_or] at h
    rw [posFrom, if_neg (Ne.symm h.1)]
    exact posFrom_none h.2
theorem posFrom_append (n : Int) : ∀ (a b : List Int) (k : Nat), posFrom n k (a ++ b) = posFrom n k a ++ posFrom n (k + a.length) b
  | [], b, k => by simp [posFrom]
  | x :: a, b, k => by
    simp only [List.cons_append, posFrom, List.length_cons]
    rw [posFrom_append n a b (k + 1), show k + 1 + a.length = k + (a.length + 1) by omega]
    split <;> simp
theorem num_not {o : List Int} {c : Int} (h : c ∉ o) : num o c = -1 := by rw [num, posFrom_none h]; rfl
theorem num_snoc_new {o : List Int} {c : Int} (h : c ∉ o) : num (o ++ [c]) c = (o.length : Int) := by
  rw [num, posFrom_append, posFrom_none h]
  simp [posFrom]
theorem num_snoc_old {o : List Int} {c x : Int} (hne : x ≠ c) : num (o ++ [c]) x = num o x := by
  rw [num, posFrom_append]
  have : posFrom x (0 + o.length) [c] = [] := by simp [posFrom, Ne.symm hne]
  rw [this, List.append_nil]
  rfl
theorem posFrom_some {n : Int} : ∀ {zs : List Int} {k : Nat}, n ∈ zs → ∃ (j : Nat) (r : List Int), posFrom n k zs = ((k + j : Nat) : Int) :: r ∧ ∃ h : j < zs.length, zs[j] = n
  | [], _, h => by simp at h
  | z :: zs, k, h => by
    by_cases e : z = n
    · exact ⟨0, _, by rw [posFrom, if_pos e]; rfl, by simp, by simpa using e⟩
    · obtain ⟨j, r, h1, h2, h3⟩ := posFrom_some (zs := zs) (k := k + 1) (by rcases List.mem_cons.1 h with h | h; exact absurd h.symm e; exact h)
      exact ⟨j + 1, r, by rw [posFrom, if_neg e, h1, show k + 1 + j = k + (j + 1) by omega], by simp; omega, by simpa using h3⟩
theorem num_mem {o : List Int} {c : Int} (h : c ∈ o) : ∃ k : Nat, ∃ hk : k < o.length, o[k] = c ∧ num o c = (k : Int) := by
  obtain ⟨j, r, h1, h2, h3⟩ := posFrom_some (k := 0) h
  exact ⟨j, h2, h3, by rw [num, h1]; simp⟩
theorem num_at {o : List Int} (hn : o.Nodup) {k : Nat} (hk : k < o.length) : num o o[k] = (k : Int) := by
  obtain ⟨j, hj, e, h⟩ := num_mem (List.getElem_mem hk)
  rw [h]
  have := (List.getElem_inj hn).1 e
  omega
theorem num_bounds (o : List Int) (c : Int) : -1 ≤ num o c ∧ num o c < (o.length : Int) := by
  by_cases h : c ∈ o
  · obtain ⟨k, hk, _, e⟩ := num_mem h
    omega
  · rw [num_not h]; omega
theorem num_inj {o : List Int} {x y : Int} (hx : x ∈ o) (hy : y ∈ o) (h : num o x = num o y) : x = y := by
  obtain ⟨j, hj, rfl, e1⟩ := num_mem hx
  obtain ⟨k, hk, rfl, e2⟩ := num_mem hy
  have : j = k := by omega
  subst this
  rfl
theorem num_minus {zs o : List Int} (h : OrdOk zs o) : num o (-1) = -1 := num_not fun hm => by have := h.cells _ hm; rw [isC_minus] at this; cases this
theorem num_upTo {n : Nat} {x : Int} (h : x = -1 ∨ (0 ≤ x ∧ x < (n : Int))) : num (upTo n) x = x := by
  rcases h with rfl | h
  · exact num_not fun hm => by have := upTo_mem.1 hm; omega
  · obtain ⟨k, hk, rfl⟩ : ∃ k : Nat, k < n ∧ x = (k : Int) := ⟨x.toNat, by omega, by omega⟩
    have := num_at (upTo_nodup n) (k := k) (by rw [upTo_length]; exact hk)
    rwa [upTo_at hk] at this

/-- The canonical heap. -/
def canonV (vs zs : List Int) : List Int := vs.map (num (order vs zs))
def canonN (vs zs : List Int) : List Int := (order vs zs).map fun c => num (order vs zs) (nextC zs c)
def goodH (vs zs : List Int) : Bool := goodB zs vs && goodB zs zs
theorem goodH_parts {vs zs : List Int} (h : goodH vs zs = true) : goodB zs vs = true ∧ goodB zs zs = true := by simpa [goodH] using h
/-- The canonical heap of any heap: the zero heap where an element is wrong. -/
def canonVs (vs zs : List Int) : List Int := if goodH vs zs = true then canonV vs zs else []
def canonNs (vs zs : List Int) : List Int := if goodH vs zs = true then canonN vs zs else []

theorem canon_of_upTo {vs zs : List Int} (h : goodH vs zs = true) (ho : order vs zs = upTo zs.length) : canonV vs zs = vs ∧ canonN vs zs = zs := by
  obtain ⟨hv, hz⟩ := goodH_parts h
  unfold canonV canonN
  rw [ho]
  constructor
  · conv => rhs; rw [← List.map_id vs]
    refine List.map_congr_left fun x hx => num_upTo ?_
    exact (goodB_at hv hx).imp id fun h => isC_iff.1 h
  · refine List.ext_getElem (by simp [upTo_length]) fun k h1 h2 => ?_
    simp only [List.getElem_map]
    rw [upTo_at h2, nextC_at h2]
    exact num_upTo ((goodB_at hz (List.getElem_mem h2)).imp id fun h => isC_iff.1 h)
/-- A heap that is its own canonical one: its cells are met in their order. -/
theorem upTo_of_canon {vs zs : List Int} (hv : canonV vs zs = vs) (hz : canonN vs zs = zs) : order vs zs = upTo zs.length := by
  have hE := order_end vs zs
  have hlen : (order vs zs).length = zs.length := by
    have := congrArg List.length hz
    simpa [canonN] using this
  have hall : ∀ x ∈ order vs zs, num (order vs zs) x = x := by
    have hQ : ∀ x ∈ order vs zs, x ∈ order vs zs ∧ num (order vs zs) x = x := by
      refine orderFrom_all (zs := zs) (vs := vs) (o := []) (fun x hx hq hn => ?_) (by simp) (fun v hvm hc => ?_)
      · refine ⟨hE.closed x hq.1 hn, ?_⟩
        obtain ⟨k, hk, e, en⟩ := num_mem hq.1
        have hkx : x = (k : Int) := by rw [← hq.2, en]
        have h2 : (canonN vs zs)[k]'(by simp [canonN]; exact hk) = num (order vs zs) (nextC zs x) := by simp [canonN, e]
        have h3 : zs[k]'(by omega) = num (order vs zs) (nextC zs x) := by rw [← h2]; congr 1; exact hz.symm
        have hkz : k < zs.length := by omega
        have h4 := nextC_at hkz
        rw [← hkx] at h4
        rw [← h3, h4]
      · refine ⟨order_vars hc hvm, ?_⟩
        obtain ⟨k, hk, rfl⟩ := List.getElem_of_mem hvm
        have h2 : (canonV vs zs)[k]'(by simp [canonV]; exact hk) = num (order vs zs) vs[k] := by simp [canonV]
        rw [← h2]
        congr 1
    exact fun x hx => (hQ x hx).2
  refine List.ext_getElem (by rw [upTo_length]; exact hlen) fun k h1 h2 => ?_
  rw [upTo_at (by rw [upTo_length] at h2; exact h2)]
  have := hall _ (List.getElem_mem h1)
  rw [num_at hE.nodup h1] at this
  exact this.symm

/-- New numbers along a chain. -/
theorem canon_next {vs zs : List Int} {c : Int} (hc : c ∈ order vs zs) : isC (canonN vs zs) (num (order vs zs) c) = true ∧ nextC (canonN vs zs) (num (order vs zs) c) = num (order vs zs) (nextC zs c) := by
  obtain ⟨k, hk, e, en⟩ := num_mem hc
  have hk' : k < (canonN vs zs).length := by simp [canonN]; exact hk
  rw [en]
  refine ⟨isC_of hk', ?_⟩
  rw [nextC_at hk']
  simp [canonN, e]
theorem chain_canon {vs zs : List Int} : ∀ {n : Nat} {c : Int}, (isC zs c = true → c ∈ order vs zs) → chain (canonN vs zs) n (num (order vs zs) c) = (chain zs n c).map (num (order vs zs))
  | 0, _, _ => rfl
  | n + 1, c, h => by
    have hE := order_end vs zs
    by_cases hi : isC zs c = true
    · have hc := h hi
      obtain ⟨h1, h2⟩ := canon_next hc
      simp only [chain, h1, hi, if_true, List.map_cons, h2]
      rw [chain_canon fun hn => hE.closed c hc hn]
    · simp only [Bool.not_eq_true] at hi
      have hno : c ∉ order vs zs := fun hm => by rw [hE.cells c hm] at hi; cases hi
      rw [num_not hno, chain_no (isC_minus _), chain_no hi]
      rfl
theorem orderFrom_sub {zs S : List Int} (hS : closedO zs S) {o vs : List Int} (ho : ∀ x ∈ o, x ∈ S) (hv : ∀ v ∈ vs, isC zs v = true → v ∈ S) : ∀ x ∈ orderFrom zs o vs, x ∈ S :=
  orderFrom_all (Q := fun x => x ∈ S) (fun x _ hx hn => hS x hx hn) ho hv
theorem order_canonFrom {vs zs : List Int} : ∀ {ws o : List Int}, OrdEnd zs o → (∀ x ∈ o, x ∈ order vs zs) → (∀ w ∈ ws, isC zs w = true → w ∈ order vs zs) →
    orderFrom (canonN vs zs) (o.map (num (order vs zs))) (ws.map (num (order vs zs))) = (orderFrom zs o ws).map (num (order vs zs))
  | [], _, _, _, _ => rfl
  | w :: ws, o, ho, hs, hw => by
    have hE := order_end vs zs
    have hwm := hw w (by simp)
    have hin : ∀ n, ∀ x ∈ chain zs n w, x ∈ order vs zs := fun n x hx => chain_in hE.closed hwm hx
    have hlen : (canonN vs zs).length = (order vs zs).length := by simp [canonN]
    simp only [List.map_cons, orderFrom]
    rw [chain_canon hwm, addAll_map, hlen, fuel_free (S := order vs zs) (m := zs.length) hE.closed ho.nodup hs ho.closed.to hwm (by omega) (by have := hE.len; omega)]
    · exact order_canonFrom (ho.next w) (fun x hx => by
        rcases addAll_mem.1 hx with hx | hx
        · exact hs x hx
        · exact hin _ x hx) (fun v hv => hw v (by simp [hv]))
    · intro x y hx hy e
      exact num_inj (hx.elim (hs x) (hin _ x)) (hy.elim (hs y) (hin _ y)) e
theorem order_canon (vs zs : List Int) : order (canonV vs zs) (canonN vs zs) = upTo (canonN vs zs).length := by
  have hE := order_end vs zs
  have h1 := order_canonFrom (vs := vs) (zs := zs) (ws := vs) (o := []) OrdEnd.nil_ (by simp) (fun w hw hi => order_vars hi hw)
  have h2 : order (canonV vs zs) (canonN vs zs) = (order vs zs).map (num (order vs zs)) := h1
  rw [h2]
  refine List.ext_getElem (by simp [upTo_length, canonN]) fun k h1 h2 => ?_
  have hk : k < (order vs zs).length := by simpa using h1
  rw [upTo_at (by rw [upTo_length] at h2; exact h2), List.getElem_map, num_at hE.nodup hk]
theorem canon_good (vs zs : List Int) : goodH (canonV vs zs) (canonN vs zs) = true := by
  have hlen : (canonN vs zs).length = (order vs zs).length := by simp [canonN]
  have hb : ∀ c, num (order vs zs) c = -1 ∨ isC (canonN vs zs) (num (order vs zs) c) = true := fun c => by
    by_cases h : c ∈ order vs zs
    · exact .inr (canon_next h).1
    · exact .inl (num_not h)
  have h1 : ∀ l : List Int, (∀ x ∈ l, x = -1 ∨ isC (canonN vs zs) x = true) → goodB (canonN vs zs) l = true := fun l h => by
    rw [goodB, List.all_eq_true]
    exact fun x hx => by have := h x hx; simpa using this
  rw [goodH, h1, h1]
  · rfl
  · intro x hx
    obtain ⟨c, _, rfl⟩ := List.mem_map.1 hx
    exact hb _
  · intro x hx
    obtain ⟨c, _, rfl⟩ := List.mem_map.1 hx
    exact hb _
/-- A canonical heap stays, and has no leak. -/
theorem canon_stays (vs zs : List Int) : canonVs (canonVs vs zs) (canonNs vs zs) = canonVs vs zs ∧ canonNs (canonVs vs zs) (canonNs vs zs) = canonNs vs zs ∧ leakB (canonVs vs zs) (canonNs vs zs) = false := by
  by_cases h : goodH vs zs = true
  · have h1 := canon_good vs zs
    have h2 := canon_of_upTo h1 (order_canon vs zs)
    simp only [canonVs, canonNs, h, if_true, h1, h2, true_and]
    rw [leak_good (goodH_parts h1).2, order_canon, upTo_length]
    simp
  · have h1 : canonVs vs zs = [] := if_neg h
    have h2 : canonNs vs zs = [] := if_neg h
    rw [h1, h2]
    refine ⟨by decide, by decide, by decide⟩

theorem orderFrom_snoc {zs : List Int} (v : Int) : ∀ (l o : List Int), orderFrom zs o (l ++ [v]) = addAll (orderFrom zs o l) (chain zs zs.length v)
  | [], _ => rfl
  | x :: l, o => by
    simp only [List.cons_append, orderFrom]
    exact orderFrom_snoc v l _
theorem orderS_snoc {zs : List Int} (v : Int) : ∀ (l o : List Int), orderS zs o (l ++ [v]) = addAll (orderS zs o l) (followed zs v)
  | [], _ => rfl
  | x :: l, o => by
    simp only [List.cons_append, orderS]
    exact orderS_snoc v l _
theorem followed_here {zs : List Int} (h : goodB zs zs = true) {k : Nat} (hk : k < zs.length) : ∃ hl : (followed zs (k : Int)).length - 1 < (followed zs (k : Int)).length, isC zs (followed zs (k : Int))[(followed zs (k : Int)).length - 1] = true := by
  have hm : (k : Int) ∈ followed zs (k : Int) := by
    rw [followed_good h (.inr (isC_of hk))]
    exact addAll_mem.2 (.inr (chain_here (isC_of hk)))
  have := List.length_pos_of_mem hm
  exact ⟨by omega, (followed_ok zs (k : Int)).cells _ (List.getElem_mem _)⟩

/-- No way leads round. -/
def acycAt (zs : List Int) (k : Int) : Bool := match (followed zs k).getLast? with
  | none => false
  | some x => decide (nextC zs x = -1)
def acyc (zs : List Int) : Bool := (upTo zs.length).all (acycAt zs)
theorem acycAt_of {zs : List Int} {k : Int} (hl : (followed zs k).length - 1 < (followed zs k).length) : acycAt zs k = decide (nextC zs ((followed zs k)[(followed zs k).length - 1]) = -1) := by
  unfold acycAt
  rw [List.getLast?_eq_getElem?, List.getElem?_eq_getElem hl]
theorem upTo_succ (n : Nat) : upTo (n + 1) = upTo n ++ [(n : Int)] := by simp [upTo, List.range_succ]
theorem acyc_bad {zs : List Int} {k : Nat} (hk : k < zs.length) (h : acycAt zs (k : Int) = false) : acyc zs = false := by
  rw [acyc, List.all_eq_false]
  exact ⟨(k : Int), upTo_mem.2 (by omega), by simp [h]⟩
theorem acyc_next {zs : List Int} {k : Nat} (ha : (upTo k).all (acycAt zs) = true) (h : acycAt zs (k : Int) = true) : (upTo (k + 1)).all (acycAt zs) = true := by
  rw [upTo_succ, List.all_append, ha]
  simp [h]
def heapB (n : Int) (vs zs : List Int) : Bool := decide (1 ≤ n ∧ n ≤ 4 ∧ (vs.length : Int) = n ∧ zs.length ≤ 6) && goodH vs zs && acyc zs && decide (order vs zs = upTo zs.length)
theorem heap_stays {n : Int} {vs zs : List Int} (h : heapB n vs zs = true) : canonVs vs zs = vs ∧ canonNs vs zs = zs ∧ leakB vs zs = false := by
  simp only [heapB, Bool.and_eq_true, decide_eq_true_eq] at h
  obtain ⟨⟨⟨_, hg⟩, _⟩, ho⟩ := h
  have h2 := canon_of_upTo hg ho
  refine ⟨by simp only [canonVs, hg, if_true, h2], by simp only [canonNs, hg, if_true, h2], ?_⟩
  rw [leak_good (goodH_parts hg).2, ho, upTo_length]
  simp
/-- Its own canonical heap: that its cells are met in their order. -/
theorem canon_same {vs zs : List Int} (h : goodH vs zs = true) : (decide (vs = canonVs vs zs) && decide (zs = canonNs vs zs)) = decide (order vs zs = upTo zs.length) := by
  simp only [canonVs, canonNs, h, if_true]
  rw [← Bool.decide_and]
  congr 1
  simp only [eq_iff_iff]
  exact ⟨fun hh => upTo_of_canon hh.1.symm hh.2.symm, fun hh => ⟨(canon_of_upTo h hh).1.symm, (canon_of_upTo h hh).2.symm⟩⟩
end Go.Proofs.YtpmmjaceehlpiaaGreatDoor
/-
  Two heaps compared, by the program and by the model: true exactly where variables and next cells are the same.
-/
namespace Go.Proofs.YtpmmjaceehlpiaaGreatDoor
open Go Go.RowKit

theorem same_next {α : Type} {xs ys : List α} {k : Nat} (h : xs.take k = ys.take k) (hx : k < xs.length) (hy : k < ys.length) (he : xs[k] = ys[k]) : xs.take (k + 1) = ys.take (k + 1) := by
  rw [take_next xs k hx, take_next ys k hy, h, he]
theorem same_all {α : Type} {xs ys : List α} {k : Nat} (h : xs.take k = ys.take k) (hx : k = xs.length) (hy : k = ys.length) : xs = ys := by
  rw [List.take_of_length_le (by omega), List.take_of_length_le (by omega)] at h
  exact h
theorem other_at {α : Type} {xs ys : List α} {k : Nat} (hx : k < xs.length) (hy : k < ys.length) (he : xs[k] ≠ ys[k]) : ¬ xs = ys := by
  intro h
  subst h
  exact he rfl

/-- It returned b, and the world is as it was, but for draws. -/
def SaidB (b : Bool) (w : World) (e : Ending) (w' : World) : Prop := ∃ n, e = .returned (.bool b) ∧ w' = w.drewN n

set_option maxHeartbeats 800000 in
theorem equalInts (a b : Option Addr) (ca cb : Nat) (xs ys : List Int) (w : World) (hx : xs.length ≤ maxLen) (ha : Row w w.heap.size a (intVals xs)) (hb : Row w w.heap.size b (intVals ys)) :
    Calls Tryz.prog 110 #[.slice a xs.length ca, .slice b ys.length cb] w (SaidB (decide (xs = ys)) w) := by
  unfold maxLen at hx
  by_cases hl : xs.length = ys.length
  · go_enter Tryz.func110, Tryz.ntmps110
    go_wp2
    go_loopw [13] (fun i wr => ∃ (k n : Nat), k ≤ xs.length ∧ i = .int .i64 k ∧ xs.take k = ys.take k ∧ wr = w.drewN n) (fun i _ => xs.length - (intOf i).toNat)
    case atStart => exact ⟨0, 0, Nat.zero_le _, rfl, rfl, rfl⟩
    case round =>
      obtain ⟨k, n, hk, rfl, hsame, rfl⟩ := hrel
      by_cases hlt : k < xs.length
      · have hlt' : k < ys.length := by omega
        obtain ⟨ba, oa, rfl, _, hca⟩ := ha k (.int .i64 xs[k]) (intVals_at xs k hlt)
        obtain ⟨bb, ob, rfl, _, hcb⟩ := hb k (.int .i64 ys[k]) (intVals_at ys k hlt')
        have Hs := Lib.hid hsame
        clear hsame
        by_cases he : xs[k] = ys[k]
        · have hd : (xs[k] != ys[k]) = false := by simpa using he
          go_wp2
          go_quiet (fail)
          go_wp2
          go_roundw
          case rel => exact ⟨k + 1, _, by omega, by go_num, same_next Hs.out hlt hlt' he, rfl⟩
          case measure => simp [intOf]; omega
        · have hd : (xs[k] != ys[k]) = true := by simpa using he
          have Hne := Lib.hid (other_at hlt hlt' he)
          go_wp2
          go_quiet (fail)
          go_wp2
          go_ret
          exact ⟨_, by rw [decide_eq_false Hne.out]; rfl, World.drewN_drewN ..⟩
      · have Hs := Lib.hid (same_all hsame (by omega) (by omega))
        clear hsame
        go_wp2
        go_ret
        exact ⟨_, by rw [decide_eq_true Hs.out]; rfl, rfl⟩
  · have hne : ¬ xs = ys := fun h => hl (by rw [h])
    have Hne := Lib.hid hne
    clear hne
    go_enter Tryz.func110, Tryz.ntmps110
    go_wp2
    go_ret
    exact ⟨0, by rw [decide_eq_false Hne.out]; rfl, rfl⟩

set_option maxHeartbeats 800000 in
theorem specSameInts (a b : Option Addr) (ca cb : Nat) (xs ys : List Int) (w : World) (hx : xs.length ≤ maxLen) (ha : Row w w.heap.size a (intVals xs)) (hb : Row w w.heap.size b (intVals ys)) :
    Calls Tryz.prog 113 #[.slice a xs.length ca, .slice b ys.length cb] w (SaidB (decide (xs = ys)) w) := by
  unfold maxLen at hx
  by_cases hl : xs.length = ys.length
  · go_enter Tryz.func113, Tryz.ntmps113
    go_wp2
    go_loopw [5] (fun i wr => ∃ (k n : Nat), k ≤ xs.length ∧ i = .int .i64 k ∧ xs.take k = ys.take k ∧ wr = w.drewN n) (fun i _ => xs.length - (intOf i).toNat)
    case atStart => exact ⟨0, 0, Nat.zero_le _, rfl, rfl, rfl⟩
    case round =>
      obtain ⟨k, n, hk, rfl, hsame, rfl⟩ := hrel
      by_cases hlt : k < xs.length
      · have hlt' : k < ys.length := by omega
        obtain ⟨ba, oa, rfl, _, hca⟩ := ha k (.int .i64 xs[k]) (intVals_at xs k hlt)
        obtain ⟨bb, ob, rfl, _, hcb⟩ := hb k (.int .i64 ys[k]) (intVals_at ys k hlt')
        have Hs := Lib.hid hsame
        clear hsame
        by_cases he : xs[k] = ys[k]
        · have hd : (xs[k] != ys[k]) = false := by simpa using he
          go_wp2
          go_quiet (fail)
          go_wp2
          go_roundw
          case rel => exact ⟨k + 1, _, by omega, by go_num, same_next Hs.out hlt hlt' he, rfl⟩
          case measure => simp [intOf]; omega
        · have hd : (xs[k] != ys[k]) = true := by simpa using he
          have Hne := Lib.hid (other_at hlt hlt' he)
          go_wp2
          go_quiet (fail)
          go_wp2
          go_ret
          exact ⟨_, by rw [decide_eq_false Hne.out]; rfl, World.drewN_drewN ..⟩
      · have Hs := Lib.hid (same_all hsame (by omega) (by omega))
        clear hsame
        go_wp2
        go_ret
        exact ⟨_, by rw [decide_eq_true Hs.out]; rfl, rfl⟩
  · have hne : ¬ xs = ys := fun h => hl (by rw [h])
    have Hne := Lib.hid hne
    clear hne
    go_enter Tryz.func113, Tryz.ntmps113
    go_wp2
    go_ret
    exact ⟨0, by rw [decide_eq_false Hne.out]; rfl, rfl⟩

def sameH (vs zs vs' zs' : List Int) : Bool := decide (vs = vs') && decide (zs = zs')
set_option maxHeartbeats 800000 in
theorem implEqualHeap (a b c d : Option Addr) (ca cb cc cd : Nat) (vs zs vs' zs' : List Int) (w : World) (h1 : vs.length ≤ maxLen) (h2 : zs.length ≤ maxLen) (h : HeapAt w a b vs zs) (h' : HeapAt w c d vs' zs') :
    Calls Tryz.prog 60 #[heV a vs.length ca b zs.length cb, heV c vs'.length cc d zs'.length cd] w (GaveX (.bool (sameH vs zs vs' zs')) w) := by
  have key : ∀ W, Below w.heap.size w W → HeapAt W a b vs zs ∧ HeapAt W c d vs' zs' := fun W hb => ⟨h.below hb (Nat.le_refl _), h'.below hb (Nat.le_refl _)⟩
  go_enter Tryz.func60, Tryz.ntmps60
  go_wp2_with fail
  obtain ⟨W0, hW0, hb0, hs0, ⟨c0, c1⟩, ⟨c2, c3⟩⟩ := two_box2 w (.slice a vs.length ca) (.slice b zs.length cb) (.slice c vs'.length cc) (.slice d zs'.length cd) 30 30
  rw [hW0]
  clear hW0
  refine (equalInts a c ca cc vs vs' _ h1 (key _ hb0).1.v (key _ hb0).2.v).mono ?_
  rintro e w1 ⟨d1, rfl, rfl⟩
  have hB1 : Below w.heap.size w (W0.drewN d1) := below_draws hb0 _
  cases hq : decide (vs = vs') with
  | false =>
    go_wp2
    go_ret
    exact ⟨by rw [sameH, hq]; rfl, hB1⟩
  | true =>
    go_wp2_with fail
    refine (equalInts b d cb cd zs zs' _ h2 (key _ hB1).1.z (key _ hB1).2.z).mono ?_
    rintro e w2 ⟨d2, rfl, rfl⟩
    go_wp2
    go_ret
    exact ⟨by rw [sameH, hq]; rfl, below_draws hb0 _⟩
set_option maxHeartbeats 800000 in
theorem specEqualHeap (a b c d : Option Addr) (ca cb cc cd : Nat) (vs zs vs' zs' : List Int) (w : World) (h1 : vs.length ≤ maxLen) (h2 : zs.length ≤ maxLen) (h : HeapAt w a b vs zs) (h' : HeapAt w c d vs' zs') :
    Calls Tryz.prog 68 #[heV a vs.length ca b zs.length cb, heV c vs'.length cc d zs'.length cd] w (GaveX (.bool (sameH vs zs vs' zs')) w) := by
  have key : ∀ W, Below w.heap.size w W → HeapAt W a b vs zs ∧ HeapAt W c d vs' zs' := fun W hb => ⟨h.below hb (Nat.le_refl _), h'.below hb (Nat.le_refl _)⟩
  go_enter Tryz.func68, Tryz.ntmps68
  go_wp2_with fail
  obtain ⟨W0, hW0, hb0, hs0, ⟨c0, c1⟩, ⟨c2, c3⟩⟩ := two_box2 w (.slice a vs.length ca) (.slice b zs.length cb) (.slice c vs'.length cc) (.slice d zs'.length cd) 30 30
  rw [hW0]
  clear hW0
  refine (specSameInts a c ca cc vs vs' _ h1 (key _ hb0).1.v (key _ hb0).2.v).mono ?_
  rintro e w1 ⟨d1, rfl, rfl⟩
  have hB1 : Below w.heap.size w (W0.drewN d1) := below_draws hb0 _
  cases hq : decide (vs = vs') with
  | false =>
    go_wp2
    go_ret
    exact ⟨by rw [sameH, hq]; rfl, hB1⟩
  | true =>
    go_wp2_with fail
    refine (specSameInts b d cb cd zs zs' _ h2 (key _ hB1).1.z (key _ hB1).2.z).mono ?_
    rintro e w2 ⟨d2, rfl, rfl⟩
    go_wp2
    go_ret
    exact ⟨by rw [sameH, hq]; rfl, below_draws hb0 _⟩
end Go.Proofs.YtpmmjaceehlpiaaGreatDoor
/-
  The map from cells to their numbers, in the order in which they were met.
-/
namespace Go.Proofs.YtpmmjaceehlpiaaGreatDoor
open Go Go.RowKit Go.Maps

def mapFrom {H : Type} : Nat → DataW H → List Int → DataW H
  | _, D, [] => D
  | k, D, c :: cs => mapFrom (k + 1) (D.put (.int .i64 c) (.lit (.int .i64 (k : Int)))) cs
def mapOf {H : Type} (o : List Int) : DataW H := mapFrom 0 (.map []) o
theorem mapFrom_snoc {H : Type} (c : Int) : ∀ (o : List Int) (k : Nat) (D : DataW H), mapFrom k D (o ++ [c]) = (mapFrom k D o).put (.int .i64 c) (.lit (.int .i64 ((k + o.length : Nat) : Int)))
  | [], k, D => rfl
  | x :: o, k, D => by
    simp only [List.cons_append, mapFrom, List.length_cons]
    rw [mapFrom_snoc c o (k + 1)]
    rw [show k + 1 + o.length = k + (o.length + 1) by omega]
theorem mapOf_snoc {H : Type} (o : List Int) (c : Int) : (mapOf (o ++ [c]) : DataW H) = (mapOf o).put (.int .i64 c) (.lit (.int .i64 (o.length : Int))) := by
  simp only [mapOf, mapFrom_snoc, Nat.zero_add]
theorem lit_ne {x c : Int} (h : x ≠ c) : (Lit.int .i64 x) ≠ .int .i64 c := fun e => h (by cases e; rfl)
theorem snoc_cases {α : Type} (l : List α) : l = [] ∨ ∃ a x, l = a ++ [x] := by
  rcases List.eq_nil_or_concat l with h | ⟨a, x, h⟩
  · exact .inl h
  · exact .inr ⟨a, x, by simpa using h⟩
theorem keyLit (x : Int) : WideAt.IsKeyLit (.int .i64 x) := trivial
/-- What the map says of a key. -/
structure MapSays {H : Type} (o : List Int) : Prop where
  tidy : Tidy (mapOf o : DataW H)
  has_ : ∀ x : Int, Maps.has (mapOf o : DataW H) (.int .i64 x) = decide (x ∈ o)
  at_ : ∀ x : Int, x ∈ o → ∀ z, (mapOf o : DataW H).atKey (.int .i64 x) z = .lit (.int .i64 (num o x))
  size_ : Maps.size (mapOf o : DataW H) = o.length
theorem mapSays {H : Type} : ∀ (n : Nat) (o : List Int), o.length = n → o.Nodup → MapSays (H := H) o
  | 0, o, hl, _ => by
    have : o = [] := List.eq_nil_of_length_eq_zero hl
    subst this
    exact ⟨tidy_empty, fun x => by simp [mapOf, mapFrom, Maps.has], fun x h => by simp at h, rfl⟩
  | n + 1, o, hl, hn => by
    rcases snoc_cases o with rfl | ⟨a, c, rfl⟩
    · simp at hl
    · have ha : a.Nodup ∧ c ∉ a := by
        rw [List.nodup_append] at hn
        exact ⟨hn.1, fun h => hn.2.2 c h c (by simp) rfl⟩
      have ih := mapSays (H := H) n a (by simpa using hl) ha.1
      have hno : Maps.has (mapOf a : DataW H) (.int .i64 c) = false := by rw [ih.has_]; simp [ha.2]
      refine ⟨?_, fun x => ?_, fun x hx z => ?_, ?_⟩
      · rw [mapOf_snoc]
        exact ih.tidy.put (keyLit c) _
      · rw [mapOf_snoc]
        by_cases h : x = c
        · subst h
          rw [Maps.has_put_same ih.tidy.isMap (keyLit x)]
          simp
        · rw [Maps.has_put_other (lit_ne h), ih.has_]
          simp [h]
      · rw [mapOf_snoc]
        by_cases h : x = c
        · subst h
          rw [Maps.atKey_put_same ih.tidy.isMap (keyLit x), num_snoc_new ha.2]
        · rw [Maps.atKey_put_other (lit_ne h), num_snoc_old h]
          refine ih.at_ x ?_ z
          rcases List.mem_append.1 hx with hx | hx
          · exact hx
          · simp at hx; exact absurd hx h
      · rw [mapOf_snoc, Maps.size_put ih.tidy, hno, ih.size_]
        simp
theorem says {H : Type} {o : List Int} (h : o.Nodup) : MapSays (H := H) o := mapSays _ o rfl h

/-- How many entries a map's block has. -/
def mapSize (w : World) (b : Nat) : Nat := match w.heap[b]? with
  | some (.map es _) => es.size
  | _ => 0
theorem World.ownsMap.mapSize_eq {H : Type} {P : Program} {k : TypeId} {R : Value → Option (DataW H × List MemPlace)} {w : World} {b n : Nat} {D : DataW H} (h : w.ownsMap P k R b n D) : mapSize w b = Maps.size D := by
  obtain ⟨es, clock, hb, _, _, rfl⟩ := h
  simp [mapSize, hb, Maps.size, length_sorted]
/-- A cell lies in no map's block. -/
theorem World.ownsMap.ne_cell {H : Type} {P : Program} {k : TypeId} {R : Value → Option (DataW H × List MemPlace)} {w : World} {b n : Nat} {D : DataW H} (h : w.ownsMap P k R b n D) {g o : Nat} {x : Value} (hc : w.cell? ⟨g, o, none⟩ = some x) : g ≠ b := by
  obtain ⟨es, clock, hb, _⟩ := h
  intro e
  subst e
  simp [World.cell?, hb] at hc

theorem lawK : Keyed Tryz.prog 3 := int_keyed Tryz.underlying3
theorem zeroE (w : World) : (zeroValue 3).run Tryz.prog w = .ok (.int .i64 0) w := by kernel_rfl
/-- A map of the program that numbers the cells in their order. -/
def Numbers (H : Type) (w : World) (mb : Nat) (o : List Int) : Prop := w.ownsMap (H := H) Tryz.prog 3 (plainElem Tryz.prog 3) mb o.length (mapOf o)
section
variable {H : Type} {w w' : World} {mb : Nat} {o : List Int}
theorem Numbers.below (h : Numbers H w mb o) (hb : Below w.heap.size w w') : Numbers H w' mb o :=
  World.ownsMap.kept (row := none) h ⟨hb.os, hb.tape, hb.output, hb.size, fun k hk _ => hb.block k hk⟩ (by simp)
theorem Numbers.row {B : Nat} {a : Option Addr} {xs : List Value} (h : Numbers H w mb o) (hr : Row w B a xs) (hg : w.grownBy w' (some mb)) : Row w' B a xs := fun k x hx => by
  obtain ⟨b, o', e, hb, hc⟩ := hr k x hx
  exact ⟨b, o', e, hb, hg.cell hc fun e => World.ownsMap.ne_cell h hc (by injection e)⟩
end
theorem grown_next {a b c : World} {r : Option Nat} (h : a.grownBy b r) (k : b.grownBy c r) : a.grownBy c r :=
  ⟨k.os.trans h.os, k.tape.trans h.tape, k.output.trans h.output, Nat.le_trans h.size k.size, fun j hj hd => (k.block j (Nat.lt_of_lt_of_le hj h.size) hd).trans (h.block j hj hd)⟩
theorem grown_below {a b c : World} {r : Option Nat} (h : a.grownBy b r) (k : Below b.heap.size b c) : a.grownBy c r :=
  grown_next h ⟨k.os, k.tape, k.output, k.size, fun j hj _ => k.block j hj⟩
end Go.Proofs.YtpmmjaceehlpiaaGreatDoor
/-
  The program's walks over a heap: which numbers are cells, following, numbering.
-/
namespace Go.Proofs.YtpmmjaceehlpiaaGreatDoor
open Go Go.RowKit Go.Maps

theorem implIsCell (a b : Option Addr) (na ca cb : Nat) (zs : List Int) (c : Int) (w : World) : Calls Tryz.prog 129 #[.agg #[.slice a na ca, .slice b zs.length cb], .int .i64 c] w (GaveX (.bool (isC zs c)) w) := by
  by_cases h0 : 0 ≤ c <;> by_cases h1 : c < zs.length
  all_goals
    go_enter Tryz.func129, Tryz.ntmps129
    go_wp2
    go_ret
    exact ⟨by simp [isC, h0, h1], (Below.refl _ _).alloc (Nat.le_refl _) _⟩

set_option maxRecDepth 100000 in
set_option maxHeartbeats 1600000 in
theorem implNumberFrom {H : Type} (a b : Option Addr) (na ca cb : Nat) (zs : List Int) (c : Int) (mb : Nat) (o : List Int) (w : World) (hz : zs.length ≤ 1048576) (hrow : Row w w.heap.size b (intVals zs)) (hE : OrdEnd zs o) (hown : Numbers H w mb o) :
    Calls Tryz.prog 146 #[.agg #[.slice a na ca, .slice b zs.length cb], .int .i64 c, .map (some mb)] w fun e w' => ∃ x : Int, e = .returned (.int .i64 x) ∧ Numbers H w' mb (addAll o (chain zs zs.length c)) ∧ w.grownBy w' (some mb) ∧ (o = [] → (decide (x ≠ -1) && !isC zs x) = badEnd zs zs.length c) := by
  have hmb : mb < w.heap.size := World.ownsMap.lt hown
  go_enter Tryz.func146, Tryz.ntmps146
  go_wp2_with fail
  obtain ⟨W0, hW0, hb0, hs0, hA0⟩ := one_box2 w (.slice a na ca) (.slice b zs.length cb) 30
  rw [hW0]
  clear hW0
  have hn0 := Numbers.below hown hb0
  have hr0 : Row W0 W0.heap.size b (intVals zs) := (hrow.below hb0).grow hb0.size
  go_loopw [1] (fun v wr => ∃ (cc : Int) (o1 : List Int) (n : Nat), v = .int .i64 cc ∧ Going zs o c o1 cc n ∧ Numbers H wr mb o1 ∧ W0.grownBy wr (some mb)) (fun _ wr => zs.length - mapSize wr mb)
  case atStart => exact ⟨c, o, zs.length, rfl, Going.start hE.toOrdOk hE.closed, hn0, grown_self _ _⟩
  case round =>
    obtain ⟨cc, o1, n, rfl, hgo, hnum, hgr⟩ := hrel
    have hrr := Numbers.row hn0 hr0 hgr
    have hsz := World.ownsMap.mapSize_eq hnum
    have hsay := says (H := H) hgo.ok.nodup
    have hlen := hgo.ok.len
    have hg0 : w.heap.size ≠ mb := by omega
    obtain ⟨c0, c1⟩ : Box2 wr w.heap.size (.slice a na ca) (.slice b zs.length cb) := ⟨hgr.cell hA0.1 (by simpa using hg0), hgr.cell hA0.2 (by simpa using hg0)⟩
    have hA1 : Box2 wr w.heap.size (.slice a na ca) (.slice b zs.length cb) := ⟨c0, c1⟩
    have hs1 : w.heap.size < wr.heap.size := Nat.lt_of_lt_of_le hs0 hgr.size
    rw [hsay.size_] at hsz
    have Hgo := Lib.hid hgo
    have Hsay := Lib.hid hsay
    have Hsz := Lib.hid hsz
    clear hgo hsay hsz
    go_wp2_with fail
    refine (implIsCell a b na ca cb zs cc _).mono ?_
    rintro e w1 ⟨rfl, hb1⟩
    have hnum1 := Numbers.below hnum hb1
    have hr1 := hrr.below (hb1.mono hgr.size)
    have hgr1 : W0.grownBy w1 (some mb) := grown_below hgr hb1
    clear c0 c1
    obtain ⟨c0, c1⟩ := hA1.keep hs1 hb1
    cases hc : isC zs cc with
    | false =>
      have Hend := Lib.hid (Hgo.out.stop (.inl hc))
      go_wp2
      go_ret
      exact ⟨cc, rfl, by rw [Hend.out.1]; exact hnum1, ⟨hgr1.os.trans hb0.os, hgr1.tape.trans hb0.tape, hgr1.output.trans hb0.output, Nat.le_trans hb0.size hgr1.size, fun k hk hne => (hgr1.block k (Nat.lt_of_lt_of_le hk hb0.size) hne).trans (hb0.block k hk)⟩, Hend.out.2.2⟩
    | true =>
      obtain ⟨k, rfl, hk⟩ := isC_nat hc
      have hwf : (Lit.int .i64 (k : Int)).wf = true := WalkArith.wf_i64 (by omega)
      have Hnum1 := Lib.hid hnum1
      by_cases hm : (k : Int) ∈ o1
      · have Hend := Lib.hid (Hgo.out.stop (.inr hm))
        have Hm := Lib.hid (decide_eq_true hm)
        clear hm
        go_wp2_with (first
          | (at_lookup; refine wpList_lookup_own_ok_int _ rfl _ _ 152 rfl 3 3 .i64 lawK Tryz.underlying152 Tryz.underlying3 (zeroE _) mb o1.length _ rfl Hnum1.out _ _ rfl (keyOf_int_mk Tryz.underlying3 hwf) ?_; intro cq hat hwc; rw [Hsay.out.has_, Hm.out]; clear hat)
          | go_in)
        go_ret
        exact ⟨k, rfl, by rw [Hend.out.1]; exact hnum1, ⟨hgr1.os.trans hb0.os, hgr1.tape.trans hb0.tape, hgr1.output.trans hb0.output, Nat.le_trans hb0.size hgr1.size, fun k hk hne => (hgr1.block k (Nat.lt_of_lt_of_le hk hb0.size) hne).trans (hb0.block k hk)⟩, Hend.out.2.2⟩
      · obtain ⟨m, rfl, hgo'⟩ := Hgo.out.step hc hm
        have hroom := Hgo.out.ok.room hc hm
        have hnx := nextC_at hk
        have Hm := Lib.hid (decide_eq_false hm)
        have Hnx := Lib.hid hnx
        have Hgo' := Lib.hid hgo'
        clear hm hnx hgo' Hgo
        go_wp2_with (first
          | (at_lookup; refine wpList_lookup_own_ok_int _ rfl _ _ 152 rfl 3 3 .i64 lawK Tryz.underlying152 Tryz.underlying3 (zeroE _) mb o1.length _ rfl Hnum1.out _ _ rfl (keyOf_int_mk Tryz.underlying3 hwf) ?_; intro cq hat hwc; rw [Hsay.out.has_, Hm.out]; clear hat)
          | (at_len; refine wpList_len_own _ rfl _ 152 rfl 3 3 Tryz.underlying152 _ mb o1.length _ rfl Hnum1.out ?_; rw [Hsay.out.size_])
          | (at_mapUpdate; refine wpList_mapUpdate_own _ rfl _ _ _ 152 rfl 3 3 lawK Tryz.underlying152 _ mb o1.length _ rfl Hnum1.out (by unfold maxLen; omega) _ _ _ rfl rfl (keyOf_int_mk Tryz.underlying3 hwf) _ [] (plainElem_int Tryz.underlying3 (WalkArith.wf_i64 (by omega))) ?_; intro w2 hown2 hgrow2; obtain ⟨b0, q0, rfl, hbW, hcz⟩ := hr1 k _ (intVals_at zs k hk); have hcz2 := hgrow2.cell hcz (fun e => World.ownsMap.ne_cell Hnum1.out hcz (by injection e)); have d0 := hgrow2.cell c0 (by simpa using hg0); have d1 := hgrow2.cell c1 (by simpa using hg0))
          | go_in)
        go_roundw
        case rel =>
          refine ⟨_, _, m, rfl, (by rw [← Hnx.out]; exact Hgo'.out), ?_, grown_next hgr1 hgrow2⟩
          unfold Numbers
          rw [mapOf_snoc, List.length_append]
          exact hown2
        case measure =>
          have h1 : (mapOf (o1 ++ [(k : Int)]) : DataW H) = _ := mapOf_snoc o1 (k : Int)
          have h2 := World.ownsMap.mapSize_eq hown2
          rw [← h1, (says Hgo'.out.ok.nodup).size_] at h2
          rw [h2, Hsz.out]
          simp
          omega
theorem sameKey_int (a b : Int) : (Lit.int .i64 a).sameKey (.int .i64 b) = decide (a = b) := by
  by_cases h : a = b
  · subst h
    simp [Lit.sameKey]
  · rw [Maps.sameKey_ne (lit_ne h)]
    simp [h]
theorem intInfoH : (Tryz.prog.info? 3).map (fun i => (i.zero, i.size, i.bytes)) = some (some (.int .i64 0), 1, 8) := by kernel_rfl

set_option maxRecDepth 100000 in
set_option maxHeartbeats 1600000 in
theorem implInOrder {H : Type} (mb : Nat) (o : List Int) (w : World) (hlen : o.length ≤ 1048576) (hn : o.Nodup) (hown : Numbers H w mb o) :
    Calls Tryz.prog 133 #[.map (some mb)] w (Built w.heap.size 3 (intVals o) w) := by
  obtain ⟨i0, hi, hz0, hz1, hz2⟩ := info_parts intInfoH
  have hsay := says (H := H) hn
  have hmb : mb < w.heap.size := World.ownsMap.lt hown
  by_cases he : o.length = 0
  · go_enter Tryz.func133, Tryz.ntmps133
    go_wp2_with (first
      | (at_len; refine wpList_len_own _ rfl _ 152 rfl 3 3 Tryz.underlying152 _ mb o.length _ rfl hown ?_; rw [hsay.size_, he])
      | go_in)
    go_ret
    have ho : o = [] := List.eq_nil_of_length_eq_zero he
    subst ho
    exact ⟨none, 0, rfl, Nat.le_refl _, World.ownsRow_nil _ _ _ _, Below.refl _ _⟩
  · have Hsay := Lib.hid hsay
    have Hown := Lib.hid hown
    clear hsay
    go_enter Tryz.func133, Tryz.ntmps133
    go_wp2_with (first
      | (at_len; refine wpList_len_own _ rfl _ 152 rfl 3 3 Tryz.underlying152 _ mb o.length _ rfl Hown.out ?_; rw [Hsay.out.size_])
      | (at_make; refine wpList_make_full _ rfl _ _ 28 rfl w.heap.size 3 i0 (.int .i64 0) 1 Tryz.underlying28 hi hz0 hz1 _ _ _ _ o.length rfl rfl rfl rfl (by rw [hz2]; omega) (by unfold maxLen; omega) (Nat.le_refl _) ?_; intro w0 hown0 hgrow0; have hm0 : Numbers H w0 mb o := World.ownsMap.kept Hown.out hgrow0 (by simp))
      | (at_range; refine wpList_range_own _ rfl _ 152 rfl 3 3 lawK Tryz.underlying152 _ mb o.length _ rfl hm0 ?_; intro w1 hrg1 hg1 hs1)
      | go_in)
    go_frame
    have hr1 : w.heap.size < w0.heap.size := (hown0.lt w.heap.size rfl).2
    have hr0 : w0.heap.size ≠ w.heap.size := by omega
    have ho1 := own_other hown0 hg1 (fun k hk => by simp)
    have hb1 : Below w.heap.size w w1 := ((Below.refl _ _).grown hgrow0 (Nat.le_refl _) (fun k h => by cases h)).grown hg1 hgrow0.size (fun k h => by cases h)
    generalize w0.heap.size = r at *
    clear hown0 hg1 hs1 hm0 hgrow0
    go_loopw [4] (fun _ wr => ∃ (left : Lit → Bool) (cnt : Nat) (ys : List Value), wr.ranges (H := H) Tryz.prog 3 (plainElem Tryz.prog 3) mb r o.length (mapOf o) left cnt ∧ ys.length = o.length ∧
        (∀ k (h : k < o.length), left (.int .i64 o[k]) = false → ys[k]? = some (.int .i64 o[k])) ∧ wr.ownsRow w.heap.size 3 1 (.slice (some ⟨w.heap.size, 0, none⟩) o.length o.length) o.length ys ∧ Below w.heap.size w wr)
      (fun _ wr => wr.rangeLeft mb r)
    case atStart =>
      refine ⟨_, _, _, hrg1, by simpa using ho1.1, fun k h hl => ?_, ho1, hb1⟩
      rw [Hsay.out.has_] at hl
      simp at hl
    case round =>
      obtain ⟨left, cnt, ys, hrg, hyl, hys, hownr, hb⟩ := hrel
      have Hrg := Lib.hid hrg
      have Hyl := Lib.hid hyl
      have Hys := Lib.hid hys
      have Ho := Lib.hid hownr
      have Hb := Lib.hid hb
      clear hrg hyl hys hownr hb
      go_wp2_with (first
        | (at_next; refine wpList_next_ranges_ii _ rfl _ rfl 3 3 .i64 .i64 lawK Tryz.underlying3 Tryz.underlying3 mb r o.length _ _ _ rfl Hrg.out ?_ ?_)
        | go_in)
      · intro hc0 hl0
        go_wp2
        go_ret
        have hfull : ys = intVals o := by
          apply List.ext_getElem?
          intro k
          by_cases hk : k < o.length
          · rw [Hys.out k hk (hl0 _), intVals_at o k hk]
          · rw [List.getElem?_eq_none (by rw [Hyl.out]; omega), List.getElem?_eq_none (by rw [intVals_length]; omega)]
        have ho := Ho.out
        rw [hfull] at ho
        exact built_end (intVals_length _).symm ho Hb.out
      · intro x c w2 cnt2 hwx hwc hlx hat hrg2 hlt hg2 hs2 hen
        have hhas := Maps.has_true_of_atKey hat
        rw [Hsay.out.has_] at hhas
        have hmem : x ∈ o := of_decide_eq_true hhas
        have hcn := hat (.lit (.int .i64 0))
        rw [Hsay.out.at_ x hmem] at hcn
        obtain ⟨k, hk, hxk, hnum⟩ := num_mem hmem
        obtain rfl : c = (k : Int) := by rw [← hnum]; injection hcn with hcn; injection hcn with _ hcn; exact hcn.symm
        have ho2 := own_other Ho.out hg2 (fun j hj e => by have := Option.some.inj hj; have := Option.some.inj e; simp at *; omega)
        have hb2 : Below w.heap.size w w2 := Hb.out.grown hg2 Hb.out.size (fun j hj => by have := Option.some.inj hj; have := Hrg.out.ne; have := Below.size Hb.out; omega)
        obtain ⟨old, hold⟩ : ∃ old, w2.cell? ⟨w.heap.size, k, none⟩ = some old := ⟨_, (ho2.cellAt k (by omega)).trans (List.getElem?_eq_getElem (by rw [Hyl.out]; exact hk))⟩
        have hfr := ho2.frozenAt k
        have hst := ho2.stored k (.int .i64 x)
        clear ho2 hat hhas hcn
        go_wp2
        have hrg3 := hrg2.kept (grown_cell (i := k) (u := .int .i64 x) (grown_self w2 (some w.heap.size))) (fun e => by have := Option.some.inj e; omega) (fun e => hr0 (Option.some.inj e))
        go_roundw
        case rel =>
          refine ⟨_, cnt2, ys.set k (.int .i64 x), hrg3, by rw [List.length_set]; exact Hyl.out, fun j hj hl => ?_, hst.1, hb2.setCell (Nat.le_refl _) _⟩
          by_cases hjk : j = k
          · subst hjk
            rw [List.getElem?_set_self (by rw [Hyl.out]; exact hj), hxk]
          · rw [List.getElem?_set_ne (Ne.symm hjk)]
            refine Hys.out j hj ?_
            rw [sameKey_int, decide_eq_false (fun e => hjk ((List.getElem_inj hn).1 (e.trans hxk.symm)))] at hl
            simpa using hl
        case measure => rw [hrg3.left_eq, Hrg.out.left_eq]; exact hlt

theorem grown_from {a b c : World} {r : Option Nat} (h : Below a.heap.size a b) (k : b.grownBy c r) : a.grownBy c r :=
  ⟨k.os.trans h.os, k.tape.trans h.tape, k.output.trans h.output, Nat.le_trans h.size k.size, fun j hj hd => (k.block j (Nat.lt_of_lt_of_le hj h.size) hd).trans (h.block j hj)⟩
theorem below_grown {B : Nat} {a b c : World} {m : Nat} (h : Below B a b) (hB : B ≤ b.heap.size) (k : b.grownBy c (some m)) (hm : B ≤ m) : Below B a c := h.grown k hB fun j hj => by have := Option.some.inj hj; omega

set_option maxRecDepth 100000 in
set_option maxHeartbeats 1600000 in
theorem implFollowed (a b : Option Addr) (na ca cb : Nat) (zs : List Int) (c : Int) (w : World) (hz : zs.length ≤ 1048576) (hrow : Row w w.heap.size b (intVals zs)) :
    Calls Tryz.prog 130 #[.agg #[.slice a na ca, .slice b zs.length cb], .int .i64 c] w (Built w.heap.size 3 (intVals (followed zs c)) w) := by
  have hmm := @run_makeMap Tryz.prog
  go_enter Tryz.func130, Tryz.ntmps130
  go_wp2_with fail
  obtain ⟨W0, hW0, hb0, hs0, hA0⟩ := one_box2 w (.slice a na ca) (.slice b zs.length cb) 30
  have hs : W0.heap.size = w.heap.size + 1 := by rw [← hW0]; simp
  rw [hW0]
  clear hW0
  have hbm : Below w.heap.size w (W0.alloc (.map #[] 0)) := hb0.alloc hb0.size _
  have hrow1 := (hrow.below hbm).grow hbm.size
  have hown : Numbers Unit (W0.alloc (.map #[] 0)) (w.heap.size + 1) [] := by
    rw [← hs]
    exact World.ownsMap_made _ _ _ _
  have hA1 : Box2 (W0.alloc (.map #[] 0)) w.heap.size (.slice a na ca) (.slice b zs.length cb) := hA0.keep hs0 ((Below.refl _ _).alloc (Nat.le_refl _) _)
  refine (implNumberFrom (H := Unit) a b na ca cb zs c (w.heap.size + 1) [] _ hz hrow1 OrdEnd.nil_ hown).mono ?_
  rintro e w1 ⟨x, rfl, hnum, hgr, hbad⟩
  have hB1 := below_grown hbm hbm.size hgr (by omega)
  obtain ⟨c0, c1⟩ : Box2 w1 w.heap.size (.slice a na ca) (.slice b zs.length cb) := ⟨hgr.cell hA1.1 (by simp), hgr.cell hA1.2 (by simp)⟩
  replace hbad := hbad rfl
  have Hnum := Lib.hid hnum
  clear hnum hgr hown hA1 hA0 hbm hrow1 hmm
  by_cases hx : x = -1
  · have hgood : badEnd zs zs.length c = false := by rw [← hbad]; simp [hx]
    have hf : followed zs c = addAll [] (chain zs zs.length c) := by rw [followed, hgood]; rfl
    have hxb : (x != -1) = false := by simpa using hx
    have Hf := Lib.hid hf
    clear hbad hgood hf hx
    go_wp2_with fail
    refine (implInOrder (H := Unit) (w.heap.size + 1) _ _ (Nat.le_trans (OrdOk.nil_.addAll fun _ hx => chain_cells hx).len hz) (OrdOk.nil_.addAll fun _ hx => chain_cells hx).nodup Hnum.out).mono ?_
    rintro e w2 ⟨ag, cg, rfl, hcg, hg, hb2⟩
    go_wp2
    go_ret
    rw [Hf.out]
    exact ⟨ag, cg, rfl, hcg, own_base hg hB1.size, hB1.trans (hb2.mono hB1.size)⟩
  · have hxb : (x != -1) = true := by simpa using hx
    go_wp2_with fail
    refine (implIsCell a b na ca cb zs x _).mono ?_
    rintro e w2 ⟨rfl, hb2⟩
    have hB2 := hB1.trans (hb2.mono hB1.size)
    have hnum2 := Numbers.below Hnum.out hb2
    cases hc : isC zs x with
    | false =>
      have hgood : badEnd zs zs.length c = true := by rw [← hbad]; simp [hx, hc]
      have hf : followed zs c = [] := by rw [followed, hgood]; rfl
      have Hf := Lib.hid hf
      clear hbad hgood hf hx
      go_wp2
      go_ret
      rw [Hf.out]
      exact ⟨none, 0, rfl, Nat.le_refl _, World.ownsRow_nil _ _ _ _, hB2⟩
    | true =>
      have hgood : badEnd zs zs.length c = false := by rw [← hbad]; simp [hc]
      have hf : followed zs c = addAll [] (chain zs zs.length c) := by rw [followed, hgood]; rfl
      have Hf := Lib.hid hf
      clear hbad hgood hf hx
      go_wp2_with fail
      refine (implInOrder (H := Unit) (w.heap.size + 1) _ _ (Nat.le_trans (OrdOk.nil_.addAll fun _ hx => chain_cells hx).len hz) (OrdOk.nil_.addAll fun _ hx => chain_cells hx).nodup hnum2).mono ?_
      rintro e w3 ⟨ag, cg, rfl, hcg, hg, hb3⟩
      go_wp2
      go_ret
      rw [Hf.out]
      exact ⟨ag, cg, rfl, hcg, own_base hg hB2.size, hB2.trans (hb3.mono hB2.size)⟩

set_option maxRecDepth 100000 in
set_option maxHeartbeats 1600000 in
theorem implNumbersOf (a b : Option Addr) (ca cb : Nat) (vs zs : List Int) (w : World) (hv : vs.length ≤ 1048576) (hz : zs.length ≤ 1048576) (h : HeapAt w a b vs zs) :
    Calls Tryz.prog 131 #[heV a vs.length ca b zs.length cb] w fun e w' => ∃ mb, e = .returned (.map (some mb)) ∧ w.heap.size ≤ mb ∧ Numbers Unit w' mb (order vs zs) ∧ Below w.heap.size w w' := by
  have hmm := @run_makeMap Tryz.prog
  go_enter Tryz.func131, Tryz.ntmps131
  go_wp2_with fail
  obtain ⟨W0, hW0, hb0, hs0, hA0⟩ := one_box2 w (.slice a vs.length ca) (.slice b zs.length cb) 30
  have hs : W0.heap.size = w.heap.size + 1 := by rw [← hW0]; simp
  rw [hW0]
  clear hW0
  have hbm : Below w.heap.size w (W0.alloc (.map #[] 0)) := hb0.alloc hb0.size _
  have hown : Numbers Unit (W0.alloc (.map #[] 0)) (w.heap.size + 1) [] := by
    rw [← hs]
    exact World.ownsMap_made _ _ _ _
  have hA1 : Box2 (W0.alloc (.map #[] 0)) w.heap.size (.slice a vs.length ca) (.slice b zs.length cb) := hA0.keep hs0 ((Below.refl _ _).alloc (Nat.le_refl _) _)
  have hs1 : w.heap.size < (W0.alloc (.map #[] 0)).heap.size := by simp; omega
  clear hA0 hs0 hs hb0
  generalize W0.alloc (.map #[] 0) = W1 at *
  go_loopw [10] (fun i wr => ∃ k : Nat, k ≤ vs.length ∧ i = .int .i64 k ∧ Numbers Unit wr (w.heap.size + 1) (orderFrom zs [] (vs.take k)) ∧ W1.grownBy wr (some (w.heap.size + 1))) (fun i _ => vs.length - (intOf i).toNat)
  case atStart => exact ⟨0, Nat.zero_le _, rfl, hown, grown_self _ _⟩
  case round =>
    obtain ⟨k, hk, rfl, hnum, hgr⟩ := hrel
    have hBr := below_grown hbm hbm.size hgr (by omega)
    obtain ⟨c0, c1⟩ : Box2 wr w.heap.size (.slice a vs.length ca) (.slice b zs.length cb) := ⟨hgr.cell hA1.1 (by simp), hgr.cell hA1.2 (by simp)⟩
    have hat := h.below hBr (Nat.le_refl _)
    have Hnum := Lib.hid hnum
    clear hnum
    by_cases hlt : k < vs.length
    · obtain ⟨bv, ov, rfl, hbv, hcv⟩ := hat.v k _ (intVals_at vs k hlt)
      have htk : orderFrom zs [] (vs.take (k + 1)) = addAll (orderFrom zs [] (vs.take k)) (chain zs zs.length vs[k]) := by rw [take_next vs k hlt, orderFrom_snoc]
      have Htk := Lib.hid htk
      clear htk
      go_wp2_with fail
      refine (implNumberFrom (H := Unit) _ b _ ca cb zs vs[k] (w.heap.size + 1) _ _ hz hat.z (orderFrom_end OrdEnd.nil_) Hnum.out).mono ?_
      rintro e w2 ⟨x, rfl, hnum2, hgr2, _⟩
      have hgr3 := grown_next hgr hgr2
      go_wp2
      go_roundw
      case rel => exact ⟨k + 1, by omega, by go_num, by rw [Htk.out]; exact hnum2, hgr3⟩
      case measure => simp [intOf]; omega
    · have hk' : k = vs.length := by omega
      have Hk := Lib.hid hk'
      clear hk'
      go_wp2
      go_ret
      have hn := Hnum.out
      rw [Hk.out, List.take_length] at hn
      exact ⟨_, rfl, by omega, hn, hBr⟩

theorem implNewNumber {H : Type} (mb : Nat) (o : List Int) (c : Int) (w : World) (hn : o.Nodup) (hm : -1 ∉ o) (hc : c = -1 ∨ c ∈ o) (hb : -9223372036854775808 ≤ c ∧ c ≤ 9223372036854775807) (hown : Numbers H w mb o) :
    Calls Tryz.prog 132 #[.map (some mb), .int .i64 c] w fun e w' => e = .returned (.int .i64 (num o c)) ∧ w = w' := by
  by_cases h1 : c = -1
  · subst h1
    rw [num_not hm]
    go_enter Tryz.func132, Tryz.ntmps132
    go_wp2
    go_ret
    exact ⟨rfl, rfl⟩
  · have hmem := hc.resolve_left h1
    have hsay := says (H := H) hn
    have hd : (c == -1) = false := by simpa using h1
    have hwf : (Lit.int .i64 c).wf = true := WalkArith.wf_i64 (by omega)
    clear h1
    go_enter Tryz.func132, Tryz.ntmps132
    go_wp2_with (first
      | (at_lookup; refine wpList_lookup_own_int _ rfl _ _ 152 rfl 3 3 .i64 lawK Tryz.underlying152 Tryz.underlying3 (zeroE _) mb o.length _ rfl hown _ _ rfl (keyOf_int_mk Tryz.underlying3 hwf) ?_; intro cq hat hwc)
      | go_in)
    go_ret
    rw [hsay.at_ c hmem] at hat
    injection hat with hat
    injection hat with _ hat
    exact ⟨by rw [hat]; rfl, rfl⟩

set_option maxHeartbeats 800000 in
theorem implAreTargets (a b d : Option Addr) (na ca cb cd : Nat) (zs l : List Int) (w : World) (hl : l.length ≤ 1048576) (hrow : Row w w.heap.size d (intVals l)) :
    Calls Tryz.prog 94 #[.agg #[.slice a na ca, .slice b zs.length cb], .slice d l.length cd] w (GaveX (.bool (goodB zs l)) w) := by
  go_enter Tryz.func94, Tryz.ntmps94
  go_wp2_with fail
  obtain ⟨W0, hW0, hb0, hs0, hA0⟩ := one_box2 w (.slice a na ca) (.slice b zs.length cb) 30
  rw [hW0]
  clear hW0
  go_loopw [9] (fun i wr => ∃ k : Nat, k ≤ l.length ∧ i = .int .i64 k ∧ goodB zs (l.take k) = true ∧ Below W0.heap.size W0 wr) (fun i _ => l.length - (intOf i).toNat)
  case atStart => exact ⟨0, Nat.zero_le _, rfl, rfl, Below.refl _ _⟩
  case round =>
    obtain ⟨k, hk, rfl, hall, hb⟩ := hrel
    have hBr := hb0.trans (hb.mono hb0.size)
    obtain ⟨c0, c1⟩ := hA0.keep hs0 hb
    have Hall := Lib.hid hall
    clear hall
    by_cases hlt : k < l.length
    · obtain ⟨bv, ov, rfl, hbv, hcv⟩ := (hrow.below hBr) k _ (intVals_at l k hlt)
      have hyes := goodB_next hlt Hall.out
      have hno := goodB_bad (zs := zs) hlt
      generalize l[k] = x at *
      by_cases hx : x = -1
      · have hxb : (x != -1) = false := by simpa using hx
        have Hy := Lib.hid (hyes (.inl hx))
        clear hyes hno hx
        go_wp2
        go_roundw
        case rel => exact ⟨k + 1, by omega, by go_num, Hy.out, hb⟩
        case measure => simp [intOf]; omega
      · have hxb : (x != -1) = true := by simpa using hx
        go_wp2_with fail
        refine (implIsCell a b na ca cb zs x _).mono ?_
        rintro e w2 ⟨rfl, hb2⟩
        cases hc : isC zs x with
        | false =>
          have Hn := Lib.hid (hno hx hc)
          clear hyes hno hx
          go_wp2
          go_ret
          rw [Hn.out]
          exact ⟨rfl, hBr.trans (hb2.mono hBr.size)⟩
        | true =>
          have Hy := Lib.hid (hyes (.inr hc))
          clear hyes hno hx
          go_wp2
          go_roundw
          case rel => exact ⟨k + 1, by omega, by go_num, Hy.out, hb.trans (hb2.mono hb.size)⟩
          case measure => simp [intOf]; omega
    · have hk' : k = l.length := by omega
      have ht : goodB zs l = true := by have := Hall.out; rwa [hk', List.take_length] at this
      have Ht := Lib.hid ht
      clear ht hk'
      go_wp2
      go_ret
      rw [Ht.out]
      exact ⟨rfl, hBr⟩

set_option maxRecDepth 100000 in
set_option maxHeartbeats 1600000 in
theorem implHasCycle (a b : Option Addr) (ca cb : Nat) (vs zs : List Int) (w : World) (hz : zs.length ≤ 1048576) (h : HeapAt w a b vs zs) (hg : goodB zs zs = true) :
    Calls Tryz.prog 95 #[heV a vs.length ca b zs.length cb] w (GaveX (.bool (!acyc zs)) w) := by
  go_enter Tryz.func95, Tryz.ntmps95
  go_wp2_with fail
  obtain ⟨W0, hW0, hb0, hs0, hA0⟩ := one_box2 w (.slice a vs.length ca) (.slice b zs.length cb) 30
  rw [hW0]
  clear hW0
  obtain ⟨c0, c1⟩ := hA0
  have hA0 : Box2 W0 w.heap.size (.slice a vs.length ca) (.slice b zs.length cb) := ⟨c0, c1⟩
  go_wp2
  clear c0 c1
  go_loopw [8] (fun i wr => ∃ k : Nat, k ≤ zs.length ∧ i = .int .i64 k ∧ (upTo k).all (acycAt zs) = true ∧ Below W0.heap.size W0 wr) (fun i _ => zs.length - (intOf i).toNat)
  case atStart => exact ⟨0, Nat.zero_le _, rfl, rfl, Below.refl _ _⟩
  case round =>
    obtain ⟨k, hk, rfl, hall, hb⟩ := hrel
    have hBr := hb0.trans (hb.mono hb0.size)
    obtain ⟨c0, c1⟩ := hA0.keep hs0 hb
    have hsr : w.heap.size < wr.heap.size := Nat.lt_of_lt_of_le hs0 hb.size
    have Hall := Lib.hid hall
    clear hall
    by_cases hlt : k < zs.length
    · go_wp2_with fail
      refine (implFollowed a b vs.length ca cb zs (k : Int) _ hz (h.below hBr (Nat.le_refl _)).z).mono ?_
      rintro e w2 ⟨ag, cg, rfl, hcg, hg2, hb2⟩
      rw [intVals_length] at *
      obtain ⟨hl, hcell⟩ := followed_here hg hlt
      have hac := acycAt_of hl
      obtain ⟨j, hj, hjz⟩ := isC_nat hcell
      rw [hj, nextC_at hjz] at hac
      obtain ⟨gb, go, rfl, hgb, hgc⟩ := Row.owned hg2 _ _ (intVals_at _ _ hl)
      rw [hj] at hgc
      have hB2 := hb.trans (hb2.mono hb.size)
      obtain ⟨bz, oz, rfl, hbz, hcz⟩ := (h.below (hb0.trans (hB2.mono hb0.size)) (Nat.le_refl _)).z j _ (intVals_at zs j hjz)
      obtain ⟨d0, d1⟩ := hA0.keep hs0 hB2
      have hlen : 1 ≤ (followed zs (k : Int)).length := by omega
      have hlm : (followed zs (k : Int)).length ≤ 1048576 := Nat.le_trans (followed_ok zs (k : Int)).len hz
      clear hg2 hcell hj hl c0 c1
      generalize (followed zs (k : Int)).length = n at *
      have hn1 : ((n : Int) - 1) = ((n - 1 : Nat) : Int) := by omega
      by_cases hx : zs[j] = -1
      · have hxb : (zs[j] != -1) = false := by simpa using hx
        rw [decide_eq_true hx] at hac
        have Hn := Lib.hid (acyc_next Hall.out hac)
        clear hac hx
        go_wp2
        go_quiet (fail)
        go_wp2
        go_roundw
        case rel => exact ⟨k + 1, by omega, by go_num, Hn.out, below_draws hB2 _⟩
        case measure => simp [intOf]; omega
      · have hxb : (zs[j] != -1) = true := by simpa using hx
        rw [decide_eq_false hx] at hac
        have Hn := Lib.hid (acyc_bad hlt hac)
        clear hac hx
        go_wp2
        go_quiet (fail)
        go_wp2
        go_ret
        exact ⟨by rw [Hn.out]; rfl, below_draws (hb0.trans (hB2.mono hb0.size)) _⟩
    · have hk' : k = zs.length := by omega
      have ht : acyc zs = true := by have := Hall.out; rw [hk'] at this; exact this
      have Ht := Lib.hid ht
      clear ht hk'
      go_wp2
      go_ret
      exact ⟨by rw [Ht.out]; rfl, hBr⟩
end Go.Proofs.YtpmmjaceehlpiaaGreatDoor
/-
  The program's canonical heap.
-/
namespace Go.Proofs.YtpmmjaceehlpiaaGreatDoor
open Go Go.RowKit Go.Maps

/-- All that the walk knows: the argument's box, the answer's box, the heap so far in a box at Q. -/
structure Cn (w : World) (Q : Nat) (u0 u1 x0 x1 : Value) (W : World) : Prop where
  below : Below w.heap.size w W
  arg : Box2 W w.heap.size u0 u1
  res : Box2 W (w.heap.size + 1) (.slice none 0 0) (.slice none 0 0)
  resf : ∀ o, W.frozen? ⟨w.heap.size + 1, o, none⟩ = false
  box : Box2 W Q x0 x1
  boxf : ∀ o, W.frozen? ⟨Q, o, none⟩ = false
  hQ : w.heap.size + 1 < Q
  hW : Q < W.heap.size
section
variable {w W W' : World} {Q : Nat} {u0 u1 x0 x1 : Value}
theorem Cn.same (h : Cn w Q u0 u1 x0 x1 W) (hb : Below w.heap.size w W') (hk : ∀ k, k ≤ Q → (k = w.heap.size ∨ k = w.heap.size + 1 ∨ k = Q) → W'.heap[k]? = W.heap[k]?) (hs : W.heap.size ≤ W'.heap.size) : Cn w Q u0 u1 x0 x1 W' :=
  have h1 := h.hQ
  have k0 := hk w.heap.size (by omega) (.inl rfl)
  have k1 := hk (w.heap.size + 1) (by omega) (.inr (.inl rfl))
  have k2 := hk Q (Nat.le_refl _) (.inr (.inr rfl))
  ⟨hb, ⟨(World.cell?_of_block k0).trans h.arg.1, (World.cell?_of_block k0).trans h.arg.2⟩, ⟨(World.cell?_of_block k1).trans h.res.1, (World.cell?_of_block k1).trans h.res.2⟩, fun o => (World.frozen?_of_block k1).trans (h.resf o),
    ⟨(World.cell?_of_block k2).trans h.box.1, (World.cell?_of_block k2).trans h.box.2⟩, fun o => (World.frozen?_of_block k2).trans (h.boxf o), h1, Nat.lt_of_lt_of_le h.hW hs⟩
theorem Cn.call (h : Cn w Q u0 u1 x0 x1 W) (hb : Below W.heap.size W W') : Cn w Q u0 u1 x0 x1 W' :=
  h.same (h.below.trans (hb.mono h.below.size)) (fun k hk _ => hb.block k (Nat.lt_of_le_of_lt hk h.hW)) hb.size
theorem Cn.growR {r : Option Nat} (h : Cn w Q u0 u1 x0 x1 W) (hg : W.grownBy W' r) (hr : ∀ k, r = some k → Q < k) : Cn w Q u0 u1 x0 x1 W' :=
  have h1 := h.hQ
  have h2 := h.hW
  h.same (h.below.grown hg (by omega) (fun k hk => by have := hr k hk; omega)) (fun k hk _ => hg.block k (by omega) fun e => by have := hr k e.symm; omega) hg.size
theorem Cn.setQ (h : Cn w Q u0 u1 x0 x1 W) (i : Nat) (u : Value) : Cn w Q u0 u1 (if i = 0 then u else x0) (if i = 1 then u else x1) (W.setCell ⟨Q, i, none⟩ u) :=
  have h1 := h.hQ
  have kp : ∀ j x, W.cell? ⟨Q, j, none⟩ = some x → (W.setCell ⟨Q, i, none⟩ u).cell? ⟨Q, j, none⟩ = some (if i = j then u else x) := fun j x hx => by
    by_cases hij : i = j
    · subst hij
      rw [if_pos rfl]
      exact World.cell?_setCell_same _ _ _ hx
    · rw [if_neg hij]
      exact (World.cell?_setCell_other _ _ _ _ (fun e => hij (by have := congrArg Addr.off e; simp at this; omega))).trans hx
  have kn : ∀ k, k ≠ Q → (W.setCell ⟨Q, i, none⟩ u).heap[k]? = W.heap[k]? := fun k hk => Below.heap_setCell _ _ _ _ hk
  ⟨h.below.setCell (p := ⟨Q, i, none⟩) (by show w.heap.size ≤ Q; omega) u,
    ⟨(World.cell?_of_block (kn _ (by show w.heap.size ≠ Q; omega))).trans h.arg.1, (World.cell?_of_block (kn _ (by show w.heap.size ≠ Q; omega))).trans h.arg.2⟩,
    ⟨(World.cell?_of_block (kn _ (by show w.heap.size + 1 ≠ Q; omega))).trans h.res.1, (World.cell?_of_block (kn _ (by show w.heap.size + 1 ≠ Q; omega))).trans h.res.2⟩,
    fun o => (World.frozen?_of_block (kn _ (by show w.heap.size + 1 ≠ Q; omega))).trans (h.resf o),
    ⟨kp 0 _ h.box.1, kp 1 _ h.box.2⟩, fun o => by simp [go_sem, h.boxf o], h1, by simpa using h.hW⟩
end
theorem own_shape {w : World} {base e size n : Nat} {v : Value} {xs : List Value} (h : w.ownsRow base e size v n xs) : ∃ a c, v = .slice a n c ∧ n ≤ c := by
  rcases h.2 with ⟨rfl, rfl⟩ | ⟨g, cap, cur, rfl, _, _, hc, _⟩
  · exact ⟨_, _, rfl, Nat.le_refl _⟩
  · exact ⟨_, _, rfl, hc⟩
theorem own_drew {w : World} {base e size n : Nat} {v : Value} {xs : List Value} (h : w.ownsRow base e size v n xs) : w.drew.ownsRow base e size v n xs := own_keeps h (Below.drew (Below.refl _ _))
theorem map_take_next {α β : Type} (f : α → β) (l : List α) (k : Nat) (h : k < l.length) : (l.take (k + 1)).map f = (l.take k).map f ++ [f l[k]] := by
  rw [take_next l k h, List.map_append]
  rfl
/-- What every target of a good heap is: null, or met. -/
theorem good_met {vs zs : List Int} {c : Int} (h : c = -1 ∨ isC zs c = true) (hm : isC zs c = true → c ∈ order vs zs) : c = -1 ∨ c ∈ order vs zs := h.imp id hm
theorem good_bounds {zs : List Int} {c : Int} (hz : zs.length ≤ 1048576) (h : c = -1 ∨ isC zs c = true) : -9223372036854775808 ≤ c ∧ c ≤ 9223372036854775807 := by
  rcases h with rfl | h
  · omega
  · have := isC_iff.1 h
    omega
theorem order_minus (vs zs : List Int) : -1 ∉ order vs zs := fun hm => by have := (order_end vs zs).cells _ hm; rw [isC_minus] at this; cases this

/-- A heap that a call made. -/
def MadeHeap (vs zs : List Int) (w : World) (e : Ending) (w' : World) : Prop :=
  ∃ a ca b cb, e = .returned (heV a vs.length ca b zs.length cb) ∧ HeapIn w.heap.size w'.heap.size w' a ca b cb (intVals vs) (intVals zs) ∧ Below w.heap.size w w'

set_option maxRecDepth 100000 in
set_option maxHeartbeats 3200000 in
theorem implCanonHeap (a b : Option Addr) (ca cb : Nat) (vs zs : List Int) (w : World) (hv : vs.length ≤ 1048576) (hz : zs.length ≤ 1048576) (h : HeapAt w a b vs zs) :
    Calls Tryz.prog 96 #[heV a vs.length ca b zs.length cb] w (MadeHeap (canonVs vs zs) (canonNs vs zs) w) := by
  obtain ⟨i0, hi, hz0, hz1, hz2⟩ := info_parts intInfoH
  have hat : ∀ W, Below w.heap.size w W → HeapAt W a b vs zs := fun W hb => h.below hb (Nat.le_refl _)
  have HAT := Lib.hid hat
  clear hat h
  go_enter Tryz.func96, Tryz.ntmps96
  go_wp2_with fail
  obtain ⟨W0, hW0, hb0, hs0, hA0, hR0⟩ := two_box2 w (.slice a vs.length ca) (.slice b zs.length cb) (.slice none 0 0) (.slice none 0 0) 30 30
  have hf0 : ∀ o, W0.frozen? ⟨w.heap.size + 1, o, none⟩ = false := fun o => by rw [← hW0]; simp [go_sem]
  rw [hW0]
  clear hW0
  have hAR : ∀ W, Below W0.heap.size W0 W → Box2 W w.heap.size (.slice a vs.length ca) (.slice b zs.length cb) ∧ Box2 W (w.heap.size + 1) (.slice none 0 0) (.slice none 0 0) ∧ (∀ o, W.frozen? ⟨w.heap.size + 1, o, none⟩ = false) ∧ Below w.heap.size w W := fun W hb =>
    ⟨hA0.keep (by omega) hb, hR0.keep hs0 hb, fun o => (hb.frozen (p := ⟨w.heap.size + 1, o, none⟩) hs0).trans (hf0 o), hb0.trans (hb.mono hb0.size)⟩
  clear hA0 hR0 hf0
  refine (implAreTargets a b a vs.length ca cb ca zs vs _ hv (HAT.out _ hb0).v).mono ?_
  rintro e w1 ⟨rfl, hb1⟩
  obtain ⟨⟨c0, c1⟩, ⟨r0, r1⟩, rf, hB1⟩ := hAR _ hb1
  have hs1 : w.heap.size + 1 < w1.heap.size := Nat.lt_of_lt_of_le hs0 hb1.size
  cases hgv : goodB zs vs with
  | false =>
    have hg : goodH vs zs = false := by simp [goodH, hgv]
    have Hg := Lib.hid hg
    clear hg
    go_wp2
    refine bodyPost_ret (v := heV none 0 0 none 0 0) (by simp [results, Tryz.results96, go_sem, r0, r1]) rfl ?_
    have e1 : canonVs vs zs = [] := by simp [canonVs, Hg.out]
    have e2 : canonNs vs zs = [] := by simp [canonNs, Hg.out]
    rw [e1, e2]
    refine ⟨none, 0, none, 0, rfl, ⟨⟨Nat.le_refl _, World.ownsRow_nil _ _ _ _, fun k hk => by cases hk⟩, ⟨Nat.le_refl _, World.ownsRow_nil _ _ _ _, fun k hk => by cases hk⟩, fun j hj => by cases hj⟩, ?_⟩
    repeat (first | with_reducible exact hB1 | with_reducible refine Below.setCell ?_ (by simp <;> omega) _)
  | true =>
    go_wp2_with fail
    refine (implAreTargets a b b vs.length ca cb cb zs zs _ hz (HAT.out _ hB1).z).mono ?_
    rintro e w2 ⟨rfl, hb2⟩
    have hb2 := hb1.trans (hb2.mono hb1.size)
    clear c0 c1 r0 r1 rf
    obtain ⟨⟨c0, c1⟩, ⟨r0, r1⟩, rf, hB2⟩ := hAR _ hb2
    have hs2 : w.heap.size + 1 < w2.heap.size := Nat.lt_of_lt_of_le hs0 hb2.size
    cases hgz : goodB zs zs with
    | false =>
      have hg : goodH vs zs = false := by simp [goodH, hgz]
      have Hg := Lib.hid hg
      clear hg
      go_wp2
      refine bodyPost_ret (v := heV none 0 0 none 0 0) (by simp [results, Tryz.results96, go_sem, r0, r1]) rfl ?_
      have e1 : canonVs vs zs = [] := by simp [canonVs, Hg.out]
      have e2 : canonNs vs zs = [] := by simp [canonNs, Hg.out]
      rw [e1, e2]
      refine ⟨none, 0, none, 0, rfl, ⟨⟨Nat.le_refl _, World.ownsRow_nil _ _ _ _, fun k hk => by cases hk⟩, ⟨Nat.le_refl _, World.ownsRow_nil _ _ _ _, fun k hk => by cases hk⟩, fun j hj => by cases hj⟩, ?_⟩
      repeat (first | with_reducible exact hB2 | with_reducible refine Below.setCell ?_ (by simp <;> omega) _)
    | true =>
      have hg : goodH vs zs = true := by simp [goodH, hgv, hgz]
      have e1 : canonVs vs zs = canonV vs zs := by simp [canonVs, hg]
      have e2 : canonNs vs zs = canonN vs zs := by simp [canonNs, hg]
      have E1 := Lib.hid e1
      have E2 := Lib.hid e2
      clear e1 e2 hg
      go_wp2_with fail
      refine (implNumbersOf a b ca cb vs zs _ hv hz (HAT.out _ hB2)).mono ?_
      rintro e w3 ⟨mb, rfl, hmb, hnum, hb3⟩
      have hb3 := hb2.trans (hb3.mono hb2.size)
      obtain ⟨hA3, hR3, rf3, hB3⟩ := hAR _ hb3
      have hs3 : w.heap.size + 1 < w3.heap.size := Nat.lt_of_lt_of_le hs0 hb3.size
      have hmb3 : mb < w3.heap.size := World.ownsMap.lt hnum
      clear c0 c1 r0 r1 rf hAR hb1 hb2 hb3 hs2 hs1 hB1 hB2 hb0 hs0
      have hD0 : Cn w w3.heap.size (.slice a vs.length ca) (.slice b zs.length cb) (.slice none 0 0) (.slice none 0 0) (w3.alloc (.cells #[.slice none 0 0, .slice none 0 0] 30)) := by
        have hk := (Below.refl w3.heap.size w3).alloc (Nat.le_refl _) (.cells #[.slice none 0 0, .slice none 0 0] 30)
        exact ⟨hB3.trans (hk.mono hB3.size), hA3.keep (by omega) hk, hR3.keep hs3 hk, fun o => (hk.frozen (p := ⟨w.heap.size + 1, o, none⟩) hs3).trans (rf3 o), by simp [Box2, go_sem], fun o => by simp [go_sem], hs3, by simp⟩
      have hnum0 : Numbers Unit (w3.alloc (.cells #[.slice none 0 0, .slice none 0 0] 30)) mb (order vs zs) := Numbers.below hnum ((Below.refl _ _).alloc (Nat.le_refl _) _)
      obtain ⟨c0, c1⟩ := hD0.arg
      go_wp2
      clear c0 c1 hA3 hR3 rf3 hB3 hnum
      have hQ0 : w.heap.size + 1 < w3.heap.size := hs3
      clear hs3
      generalize w3.alloc (.cells #[.slice none 0 0, .slice none 0 0] 30) = W4 at *
      generalize w3.heap.size = Q at *
      have hE := order_end vs zs
      have HE := Lib.hid hE
      clear hE
      go_loopw [27] (fun i wr => ∃ (k : Nat) (v : Value), k ≤ vs.length ∧ i = .int .i64 k ∧ Cn w Q (.slice a vs.length ca) (.slice b zs.length cb) v (.slice none 0 0) wr ∧ Numbers Unit wr mb (order vs zs) ∧ wr.ownsRow (Q + 1) 3 1 v k (intVals ((vs.take k).map (num (order vs zs)))))
        (fun i _ => vs.length - (intOf i).toNat)
      case atStart => exact ⟨0, _, Nat.zero_le _, rfl, hD0, hnum0, World.ownsRow_nil _ _ _ _⟩
      case round =>
        obtain ⟨k, v, hk, rfl, hD, hnum, hown⟩ := hrel
        obtain ⟨va, vc, rfl, hvc⟩ := own_shape hown
        by_cases hlt : k < vs.length
        · obtain ⟨bv, ov, rfl, hbv, hcv⟩ := (HAT.out _ hD.below).v k _ (intVals_at vs k hlt)
          have hcv' : wr.drew.cell? ⟨bv, ov + k, none⟩ = some (.int .i64 vs[k]) := hcv
          have hgood := goodB_at hgv (List.getElem_mem hlt)
          have hmet := good_met (vs := vs) hgood (fun hc => order_vars hc (List.getElem_mem hlt))
          have hbd := good_bounds hz hgood
          have hnx := map_take_next (num (order vs zs)) vs k hlt
          have HMET := Lib.hid hmet
          have HBD := Lib.hid hbd
          have HNX := Lib.hid hnx
          generalize vs[k] = x at *
          clear hmet hbd hnx hgood
          have HD := Lib.hid (hD.call (Below.drew (Below.refl _ _)))
          have HN := Lib.hid (show Numbers Unit wr.drew mb (order vs zs) from Numbers.below hnum (Below.drew (Below.refl _ _)))
          have HO := Lib.hid (own_drew hown)
          have hbox := HD.out.box.1
          have hboxf := HD.out.boxf
          have hQW := hD.hW
          have hnl := (num_bounds (order vs zs) x)
          have hbnd := hD.box.1
          clear hD hnum hown
          go_wp2
          go_region_law
            (first
              | (go_simp; go_at_call 132; (with_reducible refine (implNewNumber mb (order vs zs) x _ HE.out.nodup (order_minus vs zs) HMET.out HBD.out HN.out).mono ?_); rintro e w5 ⟨rfl, rfl⟩)
              | (refine step_append_lies _ rfl (.tmp 32) (.tmp 36) 28 rfl (Q + 1) 3 i0 (.int .i64 0) 1 8 Tryz.underlying28 hi hz0 hz1 hz2 rfl (by decide) (.slice va k vc) k (intVals ((vs.take k).map (num (order vs zs)))) ?_ (HO.out.alloc _) ⟨wr.heap.size, 0, none⟩ 1 1 [.int .i64 (num (order vs zs) x)] ?_ rfl ?_ ?_ (by omega) ?_ ?_ ?_ _ rfl ?_
                 · simp [Act.eval]
                 · simp [Act.eval]
                 · exact oneCell_at (w := wr.drew) _
                 · exact oneCell_int _
                 · unfold maxLen; omega
                 · omega
                 · exact Nat.le_trans (Nat.succ_le_of_lt hQW) (by simp)
                 intro g9 cap9 w9 hown9 hg9 hat9 hlt9
                 have D9 := (HD.out.call ((Below.refl _ _).alloc (Nat.le_refl _) _)).growR hg9 (fun j hj => by have := (HO.out.lt j hj).1; omega)
                 have N9 : Numbers Unit w9 mb (order vs zs) := World.ownsMap.kept (World.ownsMap.alloc HN.out _) hg9 (fun e => by have := (HO.out.lt mb e.symm).1; omega)
                 have d9 := D9.box.1
                 have pf9 := D9.boxf))
          all_goals
            have hrel := D9.setQ 0 (.slice (some ⟨g9, 0, none⟩) (k + 1) cap9)
            have hown10 : (w9.setCell ⟨Q, 0, none⟩ (.slice (some ⟨g9, 0, none⟩) (k + 1) cap9)).ownsRow (Q + 1) 3 1 (.slice (some ⟨g9, 0, none⟩) (k + 1) cap9) (k + 1) (intVals ((vs.take (k + 1)).map (num (order vs zs)))) := by
              rw [HNX.out, intVals_snoc]
              exact ownsRow_setCell_below hown9 (a := ⟨Q, 0, none⟩) (Nat.lt_succ_self Q) _
            have hnum10 : Numbers Unit (w9.setCell ⟨Q, 0, none⟩ (.slice (some ⟨g9, 0, none⟩) (k + 1) cap9)) mb (order vs zs) := World.ownsMap.setCell N9 (by show mb ≠ Q; omega) _
            go_wp2
            go_roundw
            case rel => first | exact ⟨k + 1, _, by omega, by go_num, hrel, hnum10, hown10⟩ | ((repeat apply Exists.intro); exact ⟨⟨k + 1, _, by omega, by go_num, hrel, hnum10, hown10⟩, rfl⟩)
            case measure => simp [intOf]; omega
        · have hk' : k = vs.length := by omega
          subst hk'
          rw [List.take_length] at hown
          have hlm := HE.out.len
          go_wp2_with fail
          refine (implInOrder (H := Unit) mb (order vs zs) _ (by omega) HE.out.nodup hnum).mono ?_
          rintro e w5 ⟨oa, oc, rfl, hoc, ho5, hb5⟩
          rw [intVals_length] at *
          have hD5 := hD.call hb5
          have hnum5 : Numbers Unit w5 mb (order vs zs) := Numbers.below hnum hb5
          have hV5 : OwnIn (Q + 1) w5.heap.size w5 3 1 (.slice va vs.length vc) vs.length (intVals (canonV vs zs)) := OwnIn.of (own_keeps hown hb5)
          have hO5 : RowIn wr.heap.size w5.heap.size w5 oa (intVals (order vs zs)) := (OwnIn.of ho5).rowIn
          have hQr : Q < wr.heap.size := hD.hW
          have hrM : wr.heap.size ≤ w5.heap.size := hb5.size
          clear hD hnum hown ho5 hb5 hD0 hnum0 hlt
          generalize wr.heap.size = R at *
          go_wp2
          generalize hM : w5.heap.size = M at *
          go_loopw [43] (fun i wr => ∃ (k : Nat) (v : Value), k ≤ (order vs zs).length ∧ i = .int .i64 k ∧ Cn w Q (.slice a vs.length ca) (.slice b zs.length cb) (.slice va vs.length vc) v wr ∧ Numbers Unit wr mb (order vs zs) ∧
              OwnIn (Q + 1) M wr 3 1 (.slice va vs.length vc) vs.length (intVals (canonV vs zs)) ∧ RowIn R M wr oa (intVals (order vs zs)) ∧ wr.ownsRow M 3 1 v k (intVals (((order vs zs).take k).map fun c => num (order vs zs) (nextC zs c))))
            (fun i _ => (order vs zs).length - (intOf i).toNat)
          case atStart => exact ⟨0, _, Nat.zero_le _, rfl, hD5, hnum5, hV5, hO5, World.ownsRow_nil _ _ _ _⟩
          case round =>
            obtain ⟨k, v, hk, rfl, hD, hnum, hV, hO, hown⟩ := hrel
            obtain ⟨na, nc, rfl, hnc⟩ := own_shape hown
            by_cases hlt : k < (order vs zs).length
            · have hxc := HE.out.cells _ (List.getElem_mem hlt)
              have hnextin := HE.out.closed _ (List.getElem_mem hlt)
              have hngood := nextC_good hgz hxc
              have hmet := good_met (vs := vs) hngood hnextin
              have hbd := good_bounds hz hngood
              have hnx := map_take_next (fun c => num (order vs zs) (nextC zs c)) (order vs zs) k hlt
              obtain ⟨j, hj, hjz⟩ := isC_nat hxc
              obtain ⟨bo, oo, rfl, hbo, hco⟩ := hO.row k _ (intVals_at _ k hlt)
              rw [hj] at hco
              simp only [hj, nextC_at hjz] at hnx hmet hbd
              obtain ⟨bz, oz, rfl, hbz, hcz⟩ := (HAT.out _ hD.below).z j _ (intVals_at zs j hjz)
              have hcz' : wr.drew.cell? ⟨bz, oz + j, none⟩ = some (.int .i64 zs[j]) := hcz
              generalize hzx : zs[j] = x at *
              have HMET := Lib.hid hmet
              have HBD := Lib.hid hbd
              have HNX := Lib.hid hnx
              have HD := Lib.hid (hD.call (Below.drew (Below.refl _ _)))
              have HN := Lib.hid (show Numbers Unit wr.drew mb (order vs zs) from Numbers.below hnum (Below.drew (Below.refl _ _)))
              have HO := Lib.hid (own_drew hown)
              have HV := Lib.hid (hV.below (Below.drew (Below.refl _ _)))
              have HR := Lib.hid (hO.below (Below.drew (Below.refl _ _)))
              have hbox := HD.out.box.2
              have hboxf := HD.out.boxf
              have harg := HD.out.arg.2
              have hbnd := hD.box.2
              have harn := hD.arg.2
              have hQW := hD.hW
              have hMW := hV.1
              have hnl := (num_bounds (order vs zs) x)
              have hlm2 : (order vs zs).length ≤ 1048576 := by omega
              have hjz' : ((j : Nat) : Int) < (zs.length : Int) := by omega
              clear hD hnum hown hV hO hmet hbd hnx hngood hnextin hxc hj hzx
              go_wp2
              go_region_law
                (first
                  | (go_simp; go_at_call 132; (with_reducible refine (implNewNumber mb (order vs zs) x _ HE.out.nodup (order_minus vs zs) HMET.out HBD.out HN.out).mono ?_); rintro e w6 ⟨rfl, rfl⟩)
                  | (refine step_append_lies _ rfl (.tmp 48) (.tmp 56) 28 rfl M 3 i0 (.int .i64 0) 1 8 Tryz.underlying28 hi hz0 hz1 hz2 rfl (by decide) (.slice na k nc) k (intVals (((order vs zs).take k).map fun c => num (order vs zs) (nextC zs c))) ?_ (HO.out.alloc _) ⟨wr.heap.size, 0, none⟩ 1 1 [.int .i64 (num (order vs zs) x)] ?_ rfl ?_ ?_ (by omega) ?_ ?_ ?_ _ rfl ?_
                     · simp [Act.eval]
                     · simp [Act.eval]
                     · exact oneCell_at (w := wr.drew) _
                     · exact oneCell_int _
                     · unfold maxLen; omega
                     · omega
                     · exact Nat.le_trans hMW (by simp)
                     intro g9 cap9 w9 hown9 hg9 hat9 hlt9
                     have hal := (Below.refl wr.drew.heap.size wr.drew).alloc (Nat.le_refl _) (.cells #[.int .i64 (num (order vs zs) x)] 3)
                     have T9 : Turn M w9.heap.size _ w9 := Turn.of_grown hg9 (fun j hj => ⟨(HO.out.lt j hj).1, by have h2 : j < wr.heap.size := (HO.out.lt j hj).2; have h1 : wr.heap.size + 1 ≤ w9.heap.size := (by have := hg9.size; simpa using this); omega⟩)
                     have D9 := (HD.out.call hal).growR hg9 (fun j hj => by have := (HO.out.lt j hj).1; omega)
                     have N9 : Numbers Unit w9 mb (order vs zs) := World.ownsMap.kept (World.ownsMap.alloc HN.out _) hg9 (fun e => by have := (HO.out.lt mb e.symm).1; omega)
                     have V9 := (HV.out.below hal).turn T9 (.inl (Nat.le_refl _))
                     have R9 := (HR.out.below hal).turn T9 (.inl (Nat.le_refl _))
                     have d9 := D9.box.2
                     have pf9 := D9.boxf))
              all_goals
                have tq : Turn Q (Q + 1) w9 (w9.setCell ⟨Q, 1, none⟩ (.slice (some ⟨g9, 0, none⟩) (k + 1) cap9)) := Turn.of_grown (grown_cell (grown_self _ _)) (fun j hj => by have := Option.some.inj hj; omega)
                have hrel := D9.setQ 1 (.slice (some ⟨g9, 0, none⟩) (k + 1) cap9)
                have hV10 := V9.turn tq (.inr (Nat.le_refl _))
                have hR10 := R9.turn tq (.inr (Nat.succ_le_of_lt hQr))
                have hown10 : (w9.setCell ⟨Q, 1, none⟩ (.slice (some ⟨g9, 0, none⟩) (k + 1) cap9)).ownsRow M 3 1 (.slice (some ⟨g9, 0, none⟩) (k + 1) cap9) (k + 1) (intVals (((order vs zs).take (k + 1)).map fun c => num (order vs zs) (nextC zs c))) := by
                  rw [HNX.out, intVals_snoc]
                  exact ownsRow_setCell_below hown9 (a := ⟨Q, 1, none⟩) (Nat.lt_of_lt_of_le hQr hrM) _
                have hnum10 : Numbers Unit (w9.setCell ⟨Q, 1, none⟩ (.slice (some ⟨g9, 0, none⟩) (k + 1) cap9)) mb (order vs zs) := World.ownsMap.setCell N9 (by show mb ≠ Q; omega) _
                go_wp2
                go_roundw
                case rel => first | exact ⟨k + 1, _, by omega, by go_num, hrel, hnum10, hV10, hR10, hown10⟩ | ((repeat apply Exists.intro); exact ⟨⟨k + 1, _, by omega, by go_num, hrel, hnum10, hV10, hR10, hown10⟩, rfl⟩)
                case measure => simp [intOf]; omega
            · have hk' : k = (order vs zs).length := by omega
              subst hk'
              rw [List.take_length] at hown
              obtain ⟨x0, x1⟩ := hD.box
              obtain ⟨r0, r1⟩ := hD.res
              have rf := hD.resf
              have hne : ¬ w.heap.size + 1 = Q := by omega
              have hblw := hD.below
              have hMW := hV.1
              have HV := Lib.hid hV
              have HN := Lib.hid hown
              clear hD hnum hV hO hown
              go_wp2
              refine bodyPost_ret (v := heV va vs.length vc na (order vs zs).length nc) (by simp [results, Tryz.results96, go_sem, r0, r1]) rfl ?_
              have tq : Turn (w.heap.size + 1) (w.heap.size + 2) wr ((wr.setCell ⟨w.heap.size + 1, 0, none⟩ (.slice va vs.length vc)).setCell ⟨w.heap.size + 1, 1, none⟩ (.slice na (order vs zs).length nc)) :=
                Turn.of_grown (grown_cell (grown_cell (grown_self _ _))) (fun j hj => by have := Option.some.inj hj; omega)
              have ev : (intVals (canonV vs zs)).length = vs.length := by rw [intVals_length]; simp [canonV]
              have en : (intVals (canonN vs zs)).length = (order vs zs).length := by rw [intVals_length]; simp [canonN]
              have ev' : (canonV vs zs).length = vs.length := by simp [canonV]
              have en' : (canonN vs zs).length = (order vs zs).length := by simp [canonN]
              rw [E1.out, E2.out]
              refine ⟨va, vc, na, nc, by rw [ev', en'], ⟨?_, ?_, ?_⟩, tq.below hblw (by omega) hblw.size⟩
              · rw [ev]
                exact (HV.out.turn tq (.inr (by omega))).mono (by omega) (by simp; omega) (Nat.le_refl _)
              · rw [en]
                exact ((OwnIn.of HN.out).turn tq (.inr (by omega))).mono (by omega) (by simp) (Nat.le_refl _)
              · rw [ev, en]
                intro j h1 h2
                have := HV.out.2.2 j h1
                have := (HN.out.lt j h2).1
                omega
end Go.Proofs.YtpmmjaceehlpiaaGreatDoor
/-
  The program's test whether a heap is one.
-/
namespace Go.Proofs.YtpmmjaceehlpiaaGreatDoor
open Go Go.RowKit Go.Maps

theorem heapB_no {n : Int} {vs zs : List Int} (h : ¬ (1 ≤ n ∧ n ≤ 4 ∧ (vs.length : Int) = n ∧ zs.length ≤ 6)) : heapB n vs zs = false := by simp [heapB, h]
theorem heapB_bad {n : Int} {vs zs : List Int} (h : goodH vs zs = false) : heapB n vs zs = false := by simp [heapB, h]
theorem heapB_ring {n : Int} {vs zs : List Int} (h : acyc zs = false) : heapB n vs zs = false := by simp [heapB, h]
theorem heapB_yes {n : Int} {vs zs : List Int} (h : 1 ≤ n ∧ n ≤ 4 ∧ (vs.length : Int) = n ∧ zs.length ≤ 6) (hg : goodH vs zs = true) (ha : acyc zs = true) : heapB n vs zs = decide (order vs zs = upTo zs.length) := by simp [heapB, h, hg, ha]

set_option maxRecDepth 100000 in
set_option maxHeartbeats 1600000 in
theorem implIsHeap (n : Int) (a b : Option Addr) (ca cb : Nat) (vs zs : List Int) (w : World) (hv : vs.length ≤ maxLen) (hz : zs.length ≤ maxLen) (h : HeapAt w a b vs zs) :
    Calls Tryz.prog 51 #[.int .i64 n, heV a vs.length ca b zs.length cb] w (GaveX (.bool (heapB n vs zs)) w) := by
  have hv' := hv
  have hz' := hz
  unfold maxLen at hv' hz'
  have hat : ∀ W, Below w.heap.size w W → HeapAt W a b vs zs := fun W hb => h.below hb (Nat.le_refl _)
  have HAT := Lib.hid hat
  clear hat h
  by_cases h1 : n < 1
  · have hf := Lib.hid (heapB_no (n := n) (vs := vs) (zs := zs) (by omega))
    go_enter Tryz.func51, Tryz.ntmps51
    go_wp2
    go_ret
    rw [hf.out]
    exact ⟨rfl, (Below.refl _ _).alloc (Nat.le_refl _) _⟩
  · by_cases h2 : 4 < n
    · have hf := Lib.hid (heapB_no (n := n) (vs := vs) (zs := zs) (by omega))
      go_enter Tryz.func51, Tryz.ntmps51
      go_wp2
      go_ret
      rw [hf.out]
      exact ⟨rfl, (Below.refl _ _).alloc (Nat.le_refl _) _⟩
    · by_cases h3 : (vs.length : Int) = n
      · subst h3
        by_cases h4 : 6 < zs.length
        · have hf := Lib.hid (heapB_no (n := (vs.length : Int)) (vs := vs) (zs := zs) (by omega))
          go_enter Tryz.func51, Tryz.ntmps51
          go_wp2
          go_ret
          rw [hf.out]
          exact ⟨rfl, (Below.refl _ _).alloc (Nat.le_refl _) _⟩
        · have q1 : decide ((vs.length : Int) < 1) = false := decide_eq_false h1
          have q2 : decide (4 < (vs.length : Int)) = false := decide_eq_false h2
          have q4 : decide ((6 : Int) < (zs.length : Int)) = false := decide_eq_false (by omega)
          have hok : 1 ≤ (vs.length : Int) ∧ (vs.length : Int) ≤ 4 ∧ (vs.length : Int) = (vs.length : Int) ∧ zs.length ≤ 6 := ⟨by omega, by omega, rfl, by omega⟩
          have hl1 : vs.length ≤ 1048576 := by omega
          have hl2 : zs.length ≤ 1048576 := by omega
          go_enter Tryz.func51, Tryz.ntmps51
          go_wp2_with fail
          obtain ⟨W0, hW0, hb0, hs0, hA0⟩ := one_box2 w (.slice a vs.length ca) (.slice b zs.length cb) 30
          rw [hW0]
          clear hW0
          have hS : ∀ W, Below W0.heap.size W0 W → Box2 W w.heap.size (.slice a vs.length ca) (.slice b zs.length cb) ∧ Below w.heap.size w W := fun W hb => ⟨hA0.keep hs0 hb, hb0.trans (hb.mono hb0.size)⟩
          obtain ⟨c0, c1⟩ := hA0
          refine (implAreTargets a b a vs.length ca cb ca zs vs _ hl1 (HAT.out _ hb0).v).mono ?_
          rintro e w1 ⟨rfl, hb1⟩
          clear c0 c1
          obtain ⟨⟨c0, c1⟩, hB1⟩ := hS _ hb1
          cases hgv : goodB zs vs with
          | false =>
            have hf := Lib.hid (heapB_bad (n := (vs.length : Int)) (show goodH vs zs = false by simp [goodH, hgv]))
            go_wp2
            go_ret
            rw [hf.out]
            exact ⟨rfl, hB1⟩
          | true =>
            go_wp2_with fail
            refine (implAreTargets a b b vs.length ca cb cb zs zs _ hl2 (HAT.out _ hB1).z).mono ?_
            rintro e w2 ⟨rfl, hb2⟩
            have hb2 := hb1.trans (hb2.mono hb1.size)
            clear c0 c1
            obtain ⟨⟨c0, c1⟩, hB2⟩ := hS _ hb2
            cases hgz : goodB zs zs with
            | false =>
              have hf := Lib.hid (heapB_bad (n := (vs.length : Int)) (show goodH vs zs = false by simp [goodH, hgz]))
              go_wp2
              go_ret
              rw [hf.out]
              exact ⟨rfl, hB2⟩
            | true =>
              have hg : goodH vs zs = true := by simp [goodH, hgv, hgz]
              go_wp2_with fail
              refine (implHasCycle a b ca cb vs zs _ hl2 (HAT.out _ hB2) hgz).mono ?_
              rintro e w3 ⟨rfl, hb3⟩
              have hb3 := hb2.trans (hb3.mono hb2.size)
              clear c0 c1
              obtain ⟨⟨c0, c1⟩, hB3⟩ := hS _ hb3
              cases hac : acyc zs with
              | false =>
                have hf := Lib.hid (heapB_ring (n := (vs.length : Int)) (vs := vs) hac)
                go_wp2
                go_ret
                rw [hf.out]
                exact ⟨rfl, hB3⟩
              | true =>
                have hf := Lib.hid ((heapB_yes ⟨hok.1, hok.2.1, rfl, hok.2.2.2⟩ hg hac).trans (canon_same hg).symm)
                have hcv : (canonVs vs zs).length ≤ 4 := by simp only [canonVs, hg, if_true, canonV, List.length_map]; omega
                have hcn : (canonNs vs zs).length ≤ 6 := by have := (order_end vs zs).len; simp only [canonNs, hg, if_true, canonN, List.length_map]; omega
                have hS3 : ∀ W, Below w3.heap.size w3 W → (W.cell? ⟨w.heap.size, 0, none⟩ = some (.slice a vs.length ca) ∧ W.cell? ⟨w.heap.size, 1, none⟩ = some (.slice b zs.length cb)) ∧ Below w.heap.size w W := fun W hb => ⟨(hS _ (hb3.trans (hb.mono hb3.size))).1, hB3.trans (hb.mono hB3.size)⟩
                have hD : Below w3.heap.size w3 w3.drew := Below.drew (Below.refl _ _)
                clear c0 c1 h1 h2 h4 hok q1 q2 q4 hb1 hb2 hb3 hS
                go_wp2
                go_region_held3 (fun W => W.cell? ⟨w.heap.size, 0, none⟩ = some (.slice a vs.length ca) ∧ W.cell? ⟨w.heap.size, 1, none⟩ = some (.slice b zs.length cb))
                  (first | exact (hS3 _ hD).1 | exact (hS3 _ (Below.drew hD)).1 | exact (hS3 _ H4).1 | exact (hS3 _ H5).1)
                  (first
                    | (go_at_call 96; (with_reducible refine (implCanonHeap a b ca cb vs zs _ hl1 hl2 (HAT.out _ (hS3 _ hD).2)).mono ?_); rintro e w4 ⟨oa, oca, ob, ocb, rfl, hin, hb4⟩; have H4 := hD.trans (hb4.mono hD.size))
                    | (go_at_call 60; (with_reducible refine (implEqualHeap a b oa ob ca cb oca ocb vs zs (canonVs vs zs) (canonNs vs zs) _ hv hz (HAT.out _ (hS3 _ H4).2) hin.rows).mono ?_); rintro e w5 ⟨rfl, hb5⟩; have H5 := H4.trans (hb5.mono H4.size)))
                go_wp2
                go_ret
                rw [hf.out]
                exact ⟨rfl, (hS3 _ H5).2⟩
      · have h3b : ((vs.length : Int) != n) = true := by simpa using h3
        have hf := Lib.hid (heapB_no (n := n) (vs := vs) (zs := zs) (by omega))
        go_enter Tryz.func51, Tryz.ntmps51
        go_wp2
        go_ret
        rw [hf.out]
        exact ⟨rfl, (Below.refl _ _).alloc (Nat.le_refl _) _⟩
end Go.Proofs.YtpmmjaceehlpiaaGreatDoor
