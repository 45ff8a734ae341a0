/-
  Several texts of one proof in one file, in the order in which they build.
-/
import Derived.Test.YtglcailcdcpadaaGreatDoorChecked
import Derived.Laws.BitsAllLaws
import Derived.Laws.BitsLemmas
import Derived.Test.YtglcailcdcpadaaGreatDoorZ03
import Derived.Test.YtglcailcdcpadaaGreatDoorZ04
/-
  The draws of the laws: a cursor over the law's bytes. Of what is drawn only the range is told; the cursor is the one thing that turns.
  What the draws of all laws share: lists beside the cursor, the guard of a law's bytes, a []byte argument opened.
  A drawn flag.
  One of a list of strings, drawn.
  One of a list of ints, drawn.
-/
namespace Go.Proofs.YtglcailcdcpadaaGreatDoor
open Go Go.RowKit

/-- The bytes from an address on: each is a byte. -/
def Code8 (w : World) (B n : Nat) (a : Option Addr) : Prop := ∀ k, k < n → ∃ b o, ∃ c : Nat, a = some ⟨b, o, none⟩ ∧ b < B ∧ c ≤ 255 ∧ w.cell? ⟨b, o + k, none⟩ = some (.int .u8 (c : Int))
theorem Code8.keeps {w w' : World} {B n : Nat} {a : Option Addr} (h : Code8 w B n a) (hk : ∀ p : Addr, p.block < B → w'.cell? p = w.cell? p) : Code8 w' B n a := by
  intro k hkn
  obtain ⟨b, o, c, e, hb, h1, hc⟩ := h k hkn
  exact ⟨b, o, c, e, hb, h1, (hk _ hb).trans hc⟩
theorem Code8.grow {w : World} {B B' n : Nat} {a : Option Addr} (h : Code8 w B n a) (hB : B ≤ B') : Code8 w B' n a := by
  intro k hkn
  obtain ⟨b, o, c, e, hb, h1, hc⟩ := h k hkn
  exact ⟨b, o, c, e, by omega, h1, hc⟩

/-- A cursor in block g. -/
def Cur (w : World) (g : Nat) : Prop :=
  ∃ (a : Option Addr) (n cap i : Nat) (h : Int), w.heap[g]? = some (.cells #[.slice a n cap, .int .i64 (i : Int), .int .i64 h] 109 (0, 0)) ∧ i ≤ n ∧ n ≤ 1099511627776 ∧ Code8 w g n a
theorem Cur.lt {w : World} {g : Nat} (h : Cur w g) : g < w.heap.size := by
  obtain ⟨_, _, _, _, _, hg, _⟩ := h
  rcases Nat.lt_or_ge g w.heap.size with h1 | h1
  · exact h1
  · rw [Array.getElem?_eq_none h1] at hg; cases hg
theorem Cur.keeps {w w' : World} {g : Nat} (h : Cur w g) (hb : Below w.heap.size w w') : Cur w' g := by
  have hlt := h.lt
  obtain ⟨a, n, cap, i, x, hg, h1, h2, h3⟩ := h
  exact ⟨a, n, cap, i, x, (hb.block g hlt).trans hg, h1, h2, h3.keeps fun p hp => hb.cell (by omega)⟩

theorem and255 (y : Int) : ∃ x : Nat, x ≤ 255 ∧ bits .and .i64 y 255 = (x : Int) := by
  have h : bits .and .i64 y 255 = IntKind.i64.wrap ((BitVec.ofInt 64 y &&& BitVec.ofInt 64 255).toNat : Int) := rfl
  have hle : (BitVec.ofInt 64 y &&& BitVec.ofInt 64 255).toNat ≤ 255 := by
    rw [BitVec.toNat_and]
    exact Nat.and_le_right
  refine ⟨(BitVec.ofInt 64 y &&& BitVec.ofInt 64 255).toNat, hle, ?_⟩
  rw [h, IntKind.wrap_i64]
  omega

theorem cur_step {W : World} {g n cap i : Nat} {a : Option Addr} {v : Int} (hg : W.heap[g]? = some (.cells #[.slice a n cap, .int .i64 (i : Int), .int .i64 v] 109 (0, 0))) (hi : i < n) (hn : n ≤ 1099511627776) (hcode : Code8 W g n a) :
    Cur (W.setCell ⟨g, 1, none⟩ (.int .i64 ((i : Int) + 1))) g := by
  have h1 := heap_setCell_same W g 1 _ _ (.int .i64 ((i : Int) + 1)) hg
  refine ⟨a, n, cap, i + 1, v, ?_, hi, hn, hcode.keeps fun p hp => World.cell?_setCell_other _ _ _ _ (fun e => by subst e; exact Nat.lt_irrefl _ hp)⟩
  simpa using h1
theorem only_set {w W : World} {g i : Nat} {u : Value} (h : w.grownBy W (some g)) : w.grownBy (W.setCell ⟨g, i, none⟩ u) (some g) :=
  ⟨h.os, h.tape, h.output, by simpa using h.size, fun k hk hne => (heap_setCell_other W ⟨g, i, none⟩ k _ (fun e => hne (by simp [e]))).trans (h.block k hk hne)⟩
theorem only_draws {w W : World} {r : Option Nat} (h : w.grownBy W r) (n : Nat) : w.grownBy (W.drewN n) r := ⟨h.os, h.tape, h.output, h.size, h.block⟩

/-- What a draw does to the world: block g alone may have turned. -/
def ByteEnd (g : Nat) (w : World) (e : Ending) (w' : World) : Prop := ∃ x : Nat, x ≤ 255 ∧ e = .returned (.int .i64 (x : Int)) ∧ Cur w' g ∧ w.grownBy w' (some g)

set_option maxRecDepth 100000 in
set_option maxHeartbeats 800000 in
theorem drawByte (g : Nat) (w : World) (hcur : Cur w g) : Calls Tryz.prog 87 #[.pointer (some ⟨g, 0, none⟩)] w (ByteEnd g w) := by
  obtain ⟨a, n, cap, i, h, hg, hin, hn, hcode⟩ := hcur
  have c0 : w.cell? ⟨g, 0, none⟩ = some (.slice a n cap) := cell_of_row w g 0 _ _ (0, 0) hg
  have c1 : w.cell? ⟨g, 1, none⟩ = some (.int .i64 (i : Int)) := cell_of_row w g 1 _ _ (0, 0) hg
  have c2 : w.cell? ⟨g, 2, none⟩ = some (.int .i64 h) := cell_of_row w g 2 _ _ (0, 0) hg
  have f1 : w.frozen? ⟨g, 1, none⟩ = false := frozen_of_row w g 1 _ _ hg
  have f2 : w.frozen? ⟨g, 2, none⟩ = false := frozen_of_row w g 2 _ _ hg
  go_enter Tryz.func87, Tryz.ntmps87
  go_wp2
  generalize wrap64 (wrap64 (h * 6364136223846793005) + 1442695040888963407) = v
  have hg1 : (w.setCell ⟨g, 2, none⟩ (.int .i64 v)).heap[g]? = some (.cells #[.slice a n cap, .int .i64 (i : Int), .int .i64 v] 109 (0, 0)) := by
    have h1 := heap_setCell_same w g 2 _ _ (.int .i64 v) hg
    simpa using h1
  have hw1 : w.grownBy (w.setCell ⟨g, 2, none⟩ (.int .i64 v)) (some g) :=
    ⟨rfl, rfl, rfl, by simp, fun k _ hk => heap_setCell_other w ⟨g, 2, none⟩ k _ (fun e => hk (by simp [e]))⟩
  clear c0 c1 c2 f1 f2
  generalize w.setCell ⟨g, 2, none⟩ (.int .i64 v) = w1 at *
  have c0 : w1.cell? ⟨g, 0, none⟩ = some (.slice a n cap) := cell_of_row w1 g 0 _ _ (0, 0) hg1
  have c1 : w1.cell? ⟨g, 1, none⟩ = some (.int .i64 (i : Int)) := cell_of_row w1 g 1 _ _ (0, 0) hg1
  have c2 : w1.cell? ⟨g, 2, none⟩ = some (.int .i64 v) := cell_of_row w1 g 2 _ _ (0, 0) hg1
  have f1 : w1.frozen? ⟨g, 1, none⟩ = false := frozen_of_row w1 g 1 _ _ hg1
  have hcode1 : Code8 w1 g n a := hcode.keeps fun p hp => by
    have hgl : g < w.heap.size := by
      rcases Nat.lt_or_ge g w.heap.size with h1 | h1
      · exact h1
      · rw [Array.getElem?_eq_none h1] at hg; cases hg
    exact World.cell?_of_block (hw1.block p.block (by omega) (fun e => by injection e with e; omega))
  have Hg1 := Lib.hid hg1
  have Hw1 := Lib.hid hw1
  clear hg hg1 hw1 hcode
  go_quiet (fail)
  obtain ⟨x, hx, ex⟩ := and255 (bits BinOp.xor .i64 (v / 8589934592) (v / 35184372088832))
  rw [ex]
  clear ex
  by_cases hlt : i < n
  · obtain ⟨b, o, c, rfl, hbg, hc, hcc⟩ := hcode1 i hlt
    have hlti : (i : Int) < (n : Int) := by omega
    go_wp2
    go_quiet (fail)
    go_wp2
    go_quiet (fail)
    obtain ⟨y, hy, ey⟩ := and255 ((x : Int) + (c : Int))
    rw [ey]
    clear ey
    go_wp2
    go_ret
    exact ⟨y, hy, rfl, cur_step (W := w1.drewN _) Hg1.out hlt hn hcode1, only_set (only_draws Hw1.out _)⟩
  · have hge : ¬ (i : Int) < (n : Int) := by omega
    go_wp2
    go_quiet (fail)
    go_wp2
    go_ret
    exact ⟨x, hx, rfl, ⟨a, n, cap, i, v, Hg1.out, hin, hn, hcode1⟩, only_draws (only_draws Hw1.out _) _⟩

def BelowEnd (g n : Nat) (w : World) (e : Ending) (w' : World) : Prop := ∃ x : Nat, x < n ∧ e = .returned (.int .i64 (x : Int)) ∧ Cur w' g ∧ w.grownBy w' (some g)

theorem only_then {a b c : World} {g : Nat} (h : a.grownBy b (some g)) (k : b.grownBy c (some g)) : a.grownBy c (some g) :=
  ⟨k.os.trans h.os, k.tape.trans h.tape, k.output.trans h.output, Nat.le_trans h.size k.size, fun i hi hne => (k.block i (Nat.lt_of_lt_of_le hi h.size) hne).trans (h.block i hi hne)⟩

set_option maxHeartbeats 400000 in
theorem drawBelow_small (g n : Nat) (w : World) (h0 : 0 < n) (h1 : n ≤ 256) (hcur : Cur w g) : Calls Tryz.prog 36 #[.pointer (some ⟨g, 0, none⟩), .int .i64 (n : Int)] w (BelowEnd g n w) := by
  go_enter Tryz.func36, Tryz.ntmps36
  go_wp2_with fail
  refine (drawByte g _ hcur).mono ?_
  rintro e w1 ⟨x, hx, rfl, hc1, hw1⟩
  go_wp2
  go_ret
  exact ⟨x % n, Nat.mod_lt _ h0, by simp, hc1, hw1⟩

set_option maxHeartbeats 400000 in
theorem drawBelow_great (g n : Nat) (w : World) (h0 : 256 < n) (h1 : n ≤ 1099511627776) (hcur : Cur w g) : Calls Tryz.prog 36 #[.pointer (some ⟨g, 0, none⟩), .int .i64 (n : Int)] w (BelowEnd g n w) := by
  go_enter Tryz.func36, Tryz.ntmps36
  go_wp2_with fail
  refine (drawByte g _ hcur).mono ?_
  rintro e w1 ⟨x, hx, rfl, hc1, hw1⟩
  go_wp2_with fail
  refine (drawByte g _ hc1).mono ?_
  rintro e w2 ⟨y, hy, rfl, hc2, hw2⟩
  go_wp2_with fail
  refine (drawByte g _ hc2).mono ?_
  rintro e w3 ⟨z, hz, rfl, hc3, hw3⟩
  go_wp2_with fail
  refine (drawByte g _ hc3).mono ?_
  rintro e w4 ⟨u, hu, rfl, hc4, hw4⟩
  go_wp2
  go_ret
  exact ⟨(x * 16777216 + y * 65536 + z * 256 + u) % n, Nat.mod_lt _ (by omega), by simp, hc4, only_then (only_then (only_then hw1 hw2) hw3) hw4⟩

theorem drawBelow (g n : Nat) (w : World) (h0 : 0 < n) (h1 : n ≤ 1099511627776) (hcur : Cur w g) : Calls Tryz.prog 36 #[.pointer (some ⟨g, 0, none⟩), .int .i64 (n : Int)] w (BelowEnd g n w) := by
  by_cases h : n ≤ 256
  · exact drawBelow_small g n w h0 h hcur
  · exact drawBelow_great g n w (by omega) h1 hcur

theorem and_mask (y : Int) (m : Nat) (hm : m ≤ 9223372036854775807) : ∃ x : Nat, x ≤ m ∧ bits .and .i64 y (m : Int) = (x : Int) := by
  have h : bits .and .i64 y (m : Int) = IntKind.i64.wrap ((BitVec.ofInt 64 y &&& BitVec.ofInt 64 (m : Int)).toNat : Int) := rfl
  have hle : (BitVec.ofInt 64 y &&& BitVec.ofInt 64 (m : Int)).toNat ≤ m := by
    rw [BitVec.toNat_and]
    have h2 : (BitVec.ofInt 64 (m : Int)).toNat = m := by
      rw [BitVec.ofInt_natCast, BitVec.toNat_ofNat]
      exact Nat.mod_eq_of_lt (by omega)
    rw [h2]
    exact Nat.and_le_right
  refine ⟨(BitVec.ofInt 64 y &&& BitVec.ofInt 64 (m : Int)).toNat, hle, ?_⟩
  rw [h, IntKind.wrap_i64]
  omega

/-- A new cursor. -/
def NewEnd (w : World) (e : Ending) (w' : World) : Prop := ∃ g, e = .returned (.pointer (some ⟨g, 0, none⟩)) ∧ w.heap.size ≤ g ∧ Cur w' g ∧ Below w.heap.size w w'

theorem new_end {w : World} {a : Option Addr} {n cap : Nat} {x : Int} (hn : n ≤ 1099511627776) (hcode : Code8 w w.heap.size n a) :
    NewEnd w (.returned (.pointer (some ⟨w.heap.size, 0, none⟩))) (w.alloc (.cells #[.slice a n cap, .int .i64 0, .int .i64 x] 109)) :=
  ⟨w.heap.size, rfl, Nat.le_refl _, ⟨a, n, cap, 0, x, heap_alloc_new w _, Nat.zero_le _, hn, hcode.keeps fun _ hp => ((Below.refl w.heap.size w).alloc (Nat.le_refl _) _).cell hp⟩, (Below.refl _ _).alloc (Nat.le_refl _) _⟩

set_option maxRecDepth 100000 in
set_option maxHeartbeats 800000 in
theorem drawNew (a : Option Addr) (n cap : Nat) (w : World) (hn : n ≤ 1099511627776) (hcode : Code8 w w.heap.size n a) : Calls Tryz.prog 33 #[.slice a n cap] w (NewEnd w) := by
  go_enter Tryz.func33, Tryz.ntmps33
  go_wp2
  go_loop [3, 4] (fun h i => ∃ (k : Nat) (x : Int), k ≤ n ∧ i = .int .i64 (k : Int) ∧ h = .int .i64 x ∧ 0 ≤ x ∧ x ≤ 2199023255552) (fun _ i => n - (intOf i).toNat)
  case atStart => exact ⟨0, _, Nat.zero_le _, rfl, rfl, by omega, by omega⟩
  case round =>
    obtain ⟨k, x, hk, rfl, rfl, hx0, hx1⟩ := hrel
    by_cases hlt : k < n
    · obtain ⟨b, o, c, rfl, hbg, hc, hcc⟩ := hcode k hlt
      by_cases hlim : (k : Int) < 4000
      · obtain ⟨y, hy, ey⟩ := and_mask (x * 131 + (c : Int) + 7) 1073741823 (by omega)
        have ey' : bits .and .i64 (x * 131 + (c : Int) + 7) 1073741823 = (y : Int) := ey
        have Hey := Lib.hid ey'
        clear ey ey'
        go_wp2
        go_round
        case rel => exact ⟨k + 1, (y : Int), by omega, by go_num, by rw [Hey.out], by omega, by omega⟩
        case measure => simp [intOf]; omega
      · go_wp2
        go_ret
        exact new_end hn hcode
    · go_wp2
      go_ret
      exact new_end hn hcode
end Go.Proofs.YtglcailcdcpadaaGreatDoor

namespace Go.Proofs.YtglcailcdcpadaaGreatDoor
open Go Go.RowKit

theorem only_alloc {w W : World} {r : Option Nat} (h : w.grownBy W r) (o : Obj) : w.grownBy (W.alloc o) r :=
  ⟨h.os, h.tape, h.output, Nat.le_trans h.size (by simp), fun k hk hne => (Below.heap_alloc W o k (Nat.lt_of_lt_of_le hk h.size)).trans (h.block k hk hne)⟩
theorem only_below {w W W' : World} {r : Option Nat} (h : w.grownBy W r) (hb : Below W.heap.size W W') : w.grownBy W' r :=
  ⟨hb.os.trans h.os, hb.tape.trans h.tape, hb.output.trans h.output, Nat.le_trans h.size hb.size, fun k hk hne => (hb.block k (Nat.lt_of_lt_of_le hk h.size)).trans (h.block k hk hne)⟩
theorem only_same (w : World) (r : Option Nat) : w.grownBy w r := ⟨rfl, rfl, rfl, Nat.le_refl _, fun _ _ _ => rfl⟩
theorem below_only {B g : Nat} {a w W : World} (h : Below B a w) (hg : w.grownBy W (some g)) (hB : B ≤ w.heap.size) (hBg : B ≤ g) : Below B a W :=
  h.grown hg hB fun k hk => by cases hk; exact hBg
theorem Cur.alloc {w : World} {g : Nat} (h : Cur w g) (o : Obj) : Cur (w.alloc o) g := h.keeps ((Below.refl _ _).alloc (Nat.le_refl _) _)

/-- A list beside the cursor. -/
def Beside (w : World) (g : Nat) (a : Option Addr) (xs : List Value) : Prop := ∀ k x, xs[k]? = some x → ∃ b o, a = some ⟨b, o, none⟩ ∧ b ≠ g ∧ b < w.heap.size ∧ w.cell? ⟨b, o + k, none⟩ = some x
theorem beside_new {w : World} {g : Nat} {t : TypeId} (cs : Array Value) (hg : g < w.heap.size) : Beside (w.alloc (.cells cs t)) g (some ⟨w.heap.size, 0, none⟩) cs.toList := by
  intro k x hx
  refine ⟨w.heap.size, 0, rfl, by omega, by simp, ?_⟩
  rw [World.cell?_alloc_at _ _ _ _ rfl, Nat.zero_add]
  simpa using hx

def PickEnd (g : Nat) (xs : List Value) (w : World) (e : Ending) (w' : World) : Prop := ∃ x ∈ xs, e = .returned x ∧ Cur w' g ∧ w.grownBy w' (some g)
theorem bigNo (a : Option Addr) (n cap : Nat) (w : World) (h : n ≤ 1048576) : Calls Tryz.prog 5 #[.slice a n cap] w fun e w' => e = .returned (.bool false) ∧ w = w' := by
  have hd : decide ((1048576 : Int) < (n : Int)) = false := by simp; omega
  go_enter Tryz.func5, Tryz.ntmps5
  go_wp2
  go_ret
  exact ⟨rfl, rfl⟩
theorem bigYes (a : Option Addr) (n cap : Nat) (w : World) (hm : n ≤ maxLen) (h : 1048576 < n) : Calls Tryz.prog 5 #[.slice a n cap] w fun e w' => e = .returned (.bool true) ∧ w = w' := by
  unfold maxLen at hm
  have hd : decide ((1048576 : Int) < (n : Int)) = true := by simp; omega
  go_enter Tryz.func5, Tryz.ntmps5
  go_wp2
  go_ret
  exact ⟨rfl, rfl⟩

open Go.ChangeShapes Go.WideShapes Go.ChangeAt in
/-- A []byte argument, opened. -/
theorem open_codes {H : Type} {enc : TypeId × Value → H} {P : Program} {W : World} {t e : TypeId} {v : Value} {d : DataW H} {ps : List MemPlace} {base : Nat}
    (ht : P.underlying t = some (.slice e)) (he : P.underlying e = some (.int .u8)) (hc : P.cellsOf e = 1) (hlt : ∀ x ∈ ps, x.block < W.heap.size)
    (hval : Value.okWide P W .any base t v) (h : DataW.Trod enc P W 0 (fun _ => true) true t v d ps) :
    ∃ (a : Option Addr) (n cap : Nat), v = .slice a n cap ∧ n ≤ cap ∧ n ≤ maxLen ∧ Code8 W W.heap.size n a := by
  obtain ⟨a0, len, cap, rfl⟩ := okWide_slice ht hval
  obtain ⟨fuel, hf⟩ := h
  rcases open_ints ht he hc hf with ⟨hcs, hx⟩ | ⟨a, len', cap', zs, hcs, _, hl, hm, hz, hx, hcell, hws⟩
  · simp [Value.cells] at hcs
    obtain ⟨rfl, rfl, rfl⟩ := hcs
    exact ⟨none, 0, 0, rfl, Nat.le_refl _, Nat.zero_le _, fun k hk => by omega⟩
  · simp [Value.cells] at hcs
    obtain ⟨rfl, rfl, rfl⟩ := hcs
    simp only [Prod.mk.injEq] at hx
    obtain ⟨rfl, rfl⟩ := hx
    simp only [if_true] at hz
    refine ⟨some a, len, cap, rfl, hl, by omega, fun k hk => ?_⟩
    have hkz : k < zs.length := by omega
    obtain ⟨b, off, spot⟩ := a
    have hspot : spot = none := by simpa [Addr.add] using World.cell?_spot (hcell 0 (by omega))
    subst hspot
    have hwf := u8_bounds (hws (zs.getD k 0) (by simp [List.getD, hkz]))
    refine ⟨b, off, (zs.getD k 0).toNat, rfl, hlt (.cell b (off + 0)) (MemPlace.mem_row.2 ⟨0, by omega, by simp⟩), by omega, ?_⟩
    rw [← add_plain, hcell k (by omega)]
    rw [Int.toNat_of_nonneg hwf.1]
end Go.Proofs.YtglcailcdcpadaaGreatDoor

namespace Go.Proofs.YtglcailcdcpadaaGreatDoor
open Go Go.RowKit

def FlagEnd (g : Nat) (w : World) (e : Ending) (w' : World) : Prop := ∃ b : Bool, e = .returned (.bool b) ∧ Cur w' g ∧ w.grownBy w' (some g)
theorem drawOnce (g n : Nat) (w : World) (h0 : 0 < n) (h1 : n ≤ 1099511627776) (hcur : Cur w g) : Calls Tryz.prog 38 #[.pointer (some ⟨g, 0, none⟩), .int .i64 (n : Int)] w (FlagEnd g w) := by
  go_enter Tryz.func38, Tryz.ntmps38
  go_wp2_with fail
  refine (drawBelow g n _ h0 h1 hcur).mono ?_
  rintro e w1 ⟨x, hx, rfl, hc1, hw1⟩
  go_wp2
  go_ret
  exact ⟨_, rfl, hc1, hw1⟩

end Go.Proofs.YtglcailcdcpadaaGreatDoor

namespace Go.Proofs.YtglcailcdcpadaaGreatDoor
open Go Go.RowKit

end Go.Proofs.YtglcailcdcpadaaGreatDoor

namespace Go.Proofs.YtglcailcdcpadaaGreatDoor
open Go Go.RowKit

theorem drawPickInt (g cap : Nat) (a : Option Addr) (ns : List Int) (w : World) (h0 : 0 < ns.length) (h1 : ns.length ≤ 1099511627776) (hcur : Cur w g) (hl : Beside w g a (intVals ns)) :
    Calls Tryz.prog 35 #[.pointer (some ⟨g, 0, none⟩), .slice a ns.length cap] w (PickEnd g (intVals ns) w) := by
  go_enter Tryz.func35, Tryz.ntmps35
  go_wp2_with fail
  refine (drawBelow g ns.length _ h0 h1 hcur).mono ?_
  rintro e w1 ⟨x, hx, rfl, hc1, hw1⟩
  obtain ⟨b, o, rfl, hbg, hbw, hc⟩ := hl x (.int .i64 ns[x]) (by simp [intVals, hx])
  have hc2 : w1.cell? ⟨b, o + x, none⟩ = some (.int .i64 ns[x]) := hw1.cell hc (by simpa using hbg)
  clear hc
  go_wp2
  go_ret
  exact ⟨.int .i64 ns[x], by simp [intVals], rfl, hc1, hw1⟩

end Go.Proofs.YtglcailcdcpadaaGreatDoor
/-
  The draws of chapter 2: a name, a list of names, a list of numbers: of what is drawn only the range is told.
-/
namespace Go.Proofs.YtglcailcdcpadaaGreatDoor
open Go Go.RowKit

theorem Cur.upto {w w' : World} {g : Nat} (h : Cur w g) (hb : Below (g + 1) w w') : Cur w' g := by
  obtain ⟨a, n, cap, i, x, hg, h1, h2, h3⟩ := h
  exact ⟨a, n, cap, i, x, (hb.block g (by omega)).trans hg, h1, h2, h3.keeps fun p hp => hb.cell (by omega)⟩
theorem Cur.own {w w' : World} {g : Nat} {e n : Nat} {v : Value} {xs : List Value} (h : Cur w g) (hown : w.ownsRow (g + 1) e 1 v n xs) (hg : w.grownBy w' v.ownBlock) : Cur w' g :=
  h.upto ((Below.refl _ _).grown hg h.lt fun k hk => (hown.lt k hk).1)
theorem own_drawn {w w' : World} {g : Nat} {e n : Nat} {v : Value} {xs : List Value} (hown : w.ownsRow (g + 1) e 1 v n xs) (hg : w.grownBy w' (some g)) : w'.ownsRow (g + 1) e 1 v n xs :=
  own_other hown hg fun k hk e => by
    have := (hown.lt k hk).1
    injection e with e
    omega

def drawnNames : List ByteArray := [⟨#[120]⟩, ⟨#[97, 98]⟩, ⟨#[97, 98, 99]⟩, ⟨#[]⟩, ⟨#[88]⟩, ⟨#[120, 49]⟩, ⟨#[97, 45]⟩]
theorem drawnNames_size : ∀ s ∈ drawnNames, s.size ≤ 21 := by decide
def ShortTextEnd (w : World) (e : Ending) (w' : World) : Prop := ∃ s : ByteArray, s.size ≤ 21 ∧ e = .returned (.string s) ∧ Below w.heap.size w w'
def drawnVars : List ByteArray := [⟨#[120]⟩, ⟨#[121]⟩, ⟨#[116]⟩, ⟨#[112]⟩, ⟨#[113, 113]⟩, ⟨#[88]⟩]
theorem drawnVars_size : ∀ s ∈ drawnVars, s.size ≤ 21 := by decide
/-- A list of short strings, drawn. -/
def DrawnStrs (w : World) (e : Ending) (w' : World) : Prop :=
  ∃ (a : Option Addr) (cap : Nat) (ss : List ByteArray), e = .returned (.slice a ss.length cap) ∧ ss.length ≤ 6 ∧ (∀ s ∈ ss, s.size ≤ 21) ∧ w'.ownsRow w.heap.size 9 1 (.slice a ss.length cap) ss.length (strVals ss) ∧ Below w.heap.size w w'
theorem drawn_end {w w' : World} {base : Nat} {v : Value} {qs : List ByteArray} (hw : w.heap.size ≤ base) (hl : qs.length ≤ 6) (hs : ∀ s ∈ qs, s.size ≤ 21) (h : w'.ownsRow base 9 1 v qs.length (strVals qs)) (hb : Below w.heap.size w w') : DrawnStrs w (.returned v) w' := by
  obtain ⟨a5, c5, hv5⟩ : ∃ a5 c5, v = .slice a5 qs.length c5 := by
    rcases h.2 with ⟨h1, h2⟩ | ⟨g5, c5, _, h1, _⟩
    · exact ⟨none, 0, by rw [h1, h2]⟩
    · exact ⟨_, c5, h1⟩
  subst hv5
  exact ⟨a5, c5, qs, rfl, hl, hs, own_base h hw, hb⟩
theorem all_snoc {α : Type} {P : α → Prop} {l : List α} {x : α} (h : ∀ y ∈ l, P y) (hx : P x) : ∀ y ∈ l ++ [x], P y := by
  intro y hy
  rcases List.mem_append.1 hy with h1 | h1
  · exact h y h1
  · rw [List.mem_singleton.1 h1]
    exact hx
theorem strInfo2 : (Tryz.prog.info? 9).map (fun i => (i.zero, i.size, i.bytes)) = some (some (.string ⟨#[]⟩), 1, 16) := by kernel_rfl
def drawnKeys : List ByteArray := [⟨#[120]⟩, ⟨#[121]⟩, ⟨#[122, 122]⟩]
theorem drawnKeys_size : ∀ s ∈ drawnKeys, s.size ≤ 21 := by decide
def DrawnStrsKey (w : World) (e : Ending) (w' : World) : Prop :=
  ∃ (a : Option Addr) (cap : Nat) (ss : List ByteArray) (s : ByteArray), e = .returned (.tuple #[.slice a ss.length cap, .string s]) ∧ ss.length ≤ 6 ∧ s.size ≤ 21 ∧ (∀ s ∈ ss, s.size ≤ 21) ∧ Row w' w'.heap.size a (strVals ss) ∧ Below w.heap.size w w'
/-- A list of small ints and one, drawn. -/
def DrawnInts (w : World) (e : Ending) (w' : World) : Prop :=
  ∃ (a : Option Addr) (cap : Nat) (ns : List Int) (n : Int), e = .returned (.tuple #[.slice a ns.length cap, .int .i64 n]) ∧ ns.length ≤ 6 ∧ Row w' w'.heap.size a (intVals ns) ∧ Below w.heap.size w w'
theorem drawnInts_end {w w' : World} {base e : Nat} {v : Value} {qs : List Int} {n : Int} (hl : qs.length ≤ 6) (h : w'.ownsRow base e 1 v qs.length (intVals qs)) (hb : Below w.heap.size w w') : DrawnInts w (.returned (.tuple #[v, .int .i64 n])) w' := by
  obtain ⟨a5, c5, hv5⟩ : ∃ a5 c5, v = .slice a5 qs.length c5 := by
    rcases h.2 with ⟨h1, h2⟩ | ⟨g5, c5, _, h1, _⟩
    · exact ⟨none, 0, by rw [h1, h2]⟩
    · exact ⟨_, c5, h1⟩
  subst hv5
  exact ⟨a5, c5, qs, n, rfl, hl, Row.owned h, hb⟩
theorem intInfo2 : (Tryz.prog.info? 3).map (fun i => (i.zero, i.size, i.bytes)) = some (some (.int .i64 0), 1, 8) := by kernel_rfl
end Go.Proofs.YtglcailcdcpadaaGreatDoor
/-
  What the walks of draws share: boxes of any number of cells, the cursor beside what is made since, in the words of intervals.
-/
namespace Go.Proofs.YtglcailcdcpadaaGreatDoor
open Go Go.RowKit

theorem turn_drawn {W W' : World} {g : Nat} (h : W.grownBy W' (some g)) : Turn g (g + 1) W W' := Turn.of_grown h fun k hk => by have := Option.some.inj hk; omega
/-- The cursor, and that nothing else that was there has turned. -/
structure Dg (w : World) (g : Nat) (W : World) : Prop where
  cur : Cur W g
  grown : w.grownBy W (some g)
  hg : g < w.heap.size
section
variable {w W W' : World} {g lo hi : Nat}
theorem Dg.start (h : Cur w g) : Dg w g w := ⟨h, only_same _ _, h.lt⟩
theorem Dg.draw (h : Dg w g W) (hc : Cur W' g) (hw : W.grownBy W' (some g)) : Dg w g W' := ⟨hc, only_then h.grown hw, h.hg⟩
theorem Dg.turn (h : Dg w g W) (t : Turn lo hi W W') (hl : w.heap.size ≤ lo) : Dg w g W' :=
  have hg := h.hg
  have hs := h.grown.size
  ⟨h.cur.upto ⟨t.os, t.tape, t.output, t.size, fun k hk => t.block k (by omega) (.inl (by omega))⟩,
    ⟨t.os.trans h.grown.os, t.tape.trans h.grown.tape, t.output.trans h.grown.output, Nat.le_trans hs t.size, fun k hk hne => (t.block k (by omega) (.inl (by omega))).trans (h.grown.block k hk hne)⟩, hg⟩
theorem Dg.below (h : Dg w g W) (hb : Below W.heap.size W W') : Dg w g W' := h.turn (lo := w.heap.size) (hi := w.heap.size) (Turn.of_below hb) (Nat.le_refl _)
end
end Go.Proofs.YtglcailcdcpadaaGreatDoor
