/-
  Several texts of one proof in one file, in the order in which they build.
-/
import Derived.Test.YtplchhahjmoodaaGreatDoorChecked
import Derived.Laws.BitsAllLaws
import Derived.Laws.BitsLemmas
import Derived.RegionTactic
import Derived.ChangeAlike
import Derived.Deep.RegionHeld3
import Derived.Deep.AppendLies
import Derived.Deep.RegionLaw
import Derived.Test.YtplchhahjmoodaaGreatDoorZ02
import Derived.Test.YtplchhahjmoodaaGreatDoorZ05
import Derived.Test.YtplchhahjmoodaaGreatDoorZ06
import Derived.Test.YtplchhahjmoodaaGreatDoorZ16
import Derived.Test.YtplchhahjmoodaaGreatDoorZ23
import Derived.Test.YtplchhahjmoodaaGreatDoorZ24
import Derived.Test.YtplchhahjmoodaaGreatDoorZ22
import Derived.Test.YtplchhahjmoodaaGreatDoorZ29
import Derived.Test.YtplchhahjmoodaaGreatDoorZ36
/-
  Rows that lie apart: the law's copy of its argument, the program's answer, the model's answer: each turns alone. Nothing here knows of the program.
-/
namespace Go.Proofs.YtplchhahjmoodaaGreatDoor
open Go Go.RowKit

theorem own_other {w w' : World} {base e size n : Nat} {v : Value} {xs : List Value} {row : Option Nat} (h : w.ownsRow base e size v n xs) (hg : w.grownBy w' row) (hne : ∀ k, v.ownBlock = some k → some k ≠ row) : w'.ownsRow base e size v n xs := by
  refine ⟨h.1, h.2.imp id ?_⟩
  rintro ⟨g, cap, cur, rfl, hb, hgc, r⟩
  refine ⟨g, cap, cur, rfl, hb, ?_, r⟩
  have hlt : g < w.heap.size := by
    rcases Nat.lt_or_ge g w.heap.size with h1 | h1
    · exact h1
    · rw [Array.getElem?_eq_none h1] at hgc; cases hgc
  rw [hg.block g hlt (hne g rfl)]
  exact hgc
theorem grown_self (w : World) (r : Option Nat) : w.grownBy w r := ⟨rfl, rfl, rfl, Nat.le_refl _, fun _ _ _ => rfl⟩
theorem grown_cell {w W : World} {g i : Nat} {u : Value} (h : w.grownBy W (some g)) : w.grownBy (W.setCell ⟨g, i, none⟩ u) (some g) :=
  ⟨h.os, h.tape, h.output, by simpa using h.size, fun k hk hne => (heap_setCell_other W ⟨g, i, none⟩ k _ (fun e => hne (by simp [e]))).trans (h.block k hk hne)⟩

/-- The copy (x, at block s2), the answer (g, from s3 on), the model's answer (p, below s2). -/
structure Trio (W0 W : World) (s2 s3 : Nat) (ex : TypeId) (xn : Nat) (xs : List Value) (eg : TypeId) (vg : Value) (m : Nat) (gs : List Value) (ap : Option Addr) (ps : List Value) : Prop where
  x : W.ownsRow s2 ex 1 (.slice (some ⟨s2, 0, none⟩) xn xn) xn xs
  g : W.ownsRow s3 eg 1 vg m gs
  p : Row W s2 ap ps
  lt : s2 < s3
  le : s3 ≤ W.heap.size
  old : W0.heap.size ≤ s2
  below : Below W0.heap.size W0 W

section
variable {W0 W W' : World} {s2 s3 : Nat} {ex : TypeId} {xn : Nat} {xs : List Value} {eg : TypeId} {vg : Value} {m : Nat} {gs : List Value} {ap : Option Addr} {ps : List Value}

theorem Trio.call (h : Trio W0 W s2 s3 ex xn xs eg vg m gs ap ps) (hb : Below W.heap.size W W') : Trio W0 W' s2 s3 ex xn xs eg vg m gs ap ps := by
  have := h.le
  have := h.lt
  have := h.old
  exact ⟨own_keeps h.x hb, own_keeps h.g hb, h.p.keeps fun _ hp => hb.cell (by omega), h.lt, Nat.le_trans h.le hb.size, h.old, h.below.trans (hb.mono (by omega))⟩
theorem Trio.draws (h : Trio W0 W s2 s3 ex xn xs eg vg m gs ap ps) (n : Nat) : Trio W0 (W.drewN n) s2 s3 ex xn xs eg vg m gs ap ps := h.call (below_draws (Below.refl _ _) n)
theorem Trio.markX {xs' : List Value} (h : Trio W0 W s2 s3 ex xn xs eg vg m gs ap ps) (hg : W.grownBy W' (some s2)) (hx : W'.ownsRow s2 ex 1 (.slice (some ⟨s2, 0, none⟩) xn xn) xn xs') : Trio W0 W' s2 s3 ex xn xs' eg vg m gs ap ps := by
  have := h.le
  have := h.lt
  have := h.old
  refine ⟨hx, own_other h.g hg fun k hk e => ?_, h.p.keeps fun p hp => World.cell?_of_block (hg.block _ (by omega) fun e => ?_), h.lt, Nat.le_trans h.le hg.size, h.old, h.below.grown hg (by omega) fun k hk => by cases hk; exact h.old⟩
  · have := (h.g.lt k hk).1
    cases e
    omega
  · injection e with e
    omega
theorem Trio.markG {gs' : List Value} (h : Trio W0 W s2 s3 ex xn xs eg vg m gs ap ps) (hg : W.grownBy W' vg.ownBlock) (hx : W'.ownsRow s3 eg 1 vg m gs') : Trio W0 W' s2 s3 ex xn xs eg vg m gs' ap ps := by
  have := h.le
  have := h.lt
  have := h.old
  refine ⟨own_other h.x hg fun k hk e => ?_, hx, h.p.keeps fun p hp => World.cell?_of_block (hg.block _ (by omega) fun e => ?_), h.lt, Nat.le_trans h.le hg.size, h.old, h.below.grown hg (by omega) fun k hk => ?_⟩
  · have := (h.g.lt k e.symm).1
    have hk' : s2 = k := Option.some.inj hk
    omega
  · have := (h.g.lt _ e.symm).1
    omega
  · have := (h.g.lt k hk).1
    omega
theorem Trio.rowX (h : Trio W0 W s2 s3 ex xn xs eg vg m gs ap ps) : Row W W.heap.size (some ⟨s2, 0, none⟩) xs := Row.owned h.x
theorem Trio.rowG {a : Option Addr} {c : Nat} (h : Trio W0 W s2 s3 ex xn xs eg (.slice a m c) m gs ap ps) : Row W W.heap.size a gs := Row.owned h.g
theorem Trio.rowP (h : Trio W0 W s2 s3 ex xn xs eg vg m gs ap ps) : Row W W.heap.size ap ps := h.p.grow (Nat.le_trans (Nat.le_of_lt h.lt) h.le)
theorem Trio.rowOld {a : Option Addr} {zs : List Value} (h : Trio W0 W s2 s3 ex xn xs eg vg m gs ap ps) (hr : Row W0 W0.heap.size a zs) : Row W W.heap.size a zs := (hr.below h.below).grow h.below.size
end
end Go.Proofs.YtplchhahjmoodaaGreatDoor
/-
  The draws of the laws: a cursor over the law's bytes. Of what is drawn only the range is told; the cursor is the one thing that turns.
  What the draws of all laws share: lists beside the cursor, the guard of a law's bytes, a []byte argument opened.
  A drawn flag.
  One of a list of strings, drawn.
  One of a list of ints, drawn.
-/
namespace Go.Proofs.YtplchhahjmoodaaGreatDoor
open Go Go.RowKit

/-- The bytes from an address on: each is a byte. -/
def Code8 (w : World) (B n : Nat) (a : Option Addr) : Prop := ∀ k, k < n → ∃ b o, ∃ c : Nat, a = some ⟨b, o, none⟩ ∧ b < B ∧ c ≤ 255 ∧ w.cell? ⟨b, o + k, none⟩ = some (.int .u8 (c : Int))
theorem Code8.keeps {w w' : World} {B n : Nat} {a : Option Addr} (h : Code8 w B n a) (hk : ∀ p : Addr, p.block < B → w'.cell? p = w.cell? p) : Code8 w' B n a := by
  intro k hkn
  obtain ⟨b, o, c, e, hb, h1, hc⟩ := h k hkn
  exact ⟨b, o, c, e, hb, h1, (hk _ hb).trans hc⟩
theorem Code8.grow {w : World} {B B' n : Nat} {a : Option Addr} (h : Code8 w B n a) (hB : B ≤ B') : Code8 w B' n a := by
  intro k hkn
  obtain ⟨b, o, c, e, hb, h1, hc⟩ := h k hkn
  exact ⟨b, o, c, e, by omega, h1, hc⟩

/-- A cursor in block g. -/
def Cur (w : World) (g : Nat) : Prop :=
  ∃ (a : Option Addr) (n cap i : Nat) (h : Int), w.heap[g]? = some (.cells #[.slice a n cap, .int .i64 (i : Int), .int .i64 h] 100 (0, 0)) ∧ i ≤ n ∧ n ≤ 1099511627776 ∧ Code8 w g n a
theorem Cur.lt {w : World} {g : Nat} (h : Cur w g) : g < w.heap.size := by
  obtain ⟨_, _, _, _, _, hg, _⟩ := h
  rcases Nat.lt_or_ge g w.heap.size with h1 | h1
  · exact h1
  · rw [Array.getElem?_eq_none h1] at hg; cases hg
theorem Cur.keeps {w w' : World} {g : Nat} (h : Cur w g) (hb : Below w.heap.size w w') : Cur w' g := by
  have hlt := h.lt
  obtain ⟨a, n, cap, i, x, hg, h1, h2, h3⟩ := h
  exact ⟨a, n, cap, i, x, (hb.block g hlt).trans hg, h1, h2, h3.keeps fun p hp => hb.cell (by omega)⟩

theorem and255 (y : Int) : ∃ x : Nat, x ≤ 255 ∧ bits .and .i64 y 255 = (x : Int) := by
  have h : bits .and .i64 y 255 = IntKind.i64.wrap ((BitVec.ofInt 64 y &&& BitVec.ofInt 64 255).toNat : Int) := rfl
  have hle : (BitVec.ofInt 64 y &&& BitVec.ofInt 64 255).toNat ≤ 255 := by
    rw [BitVec.toNat_and]
    exact Nat.and_le_right
  refine ⟨(BitVec.ofInt 64 y &&& BitVec.ofInt 64 255).toNat, hle, ?_⟩
  rw [h, IntKind.wrap_i64]
  omega

theorem cur_step {W : World} {g n cap i : Nat} {a : Option Addr} {v : Int} (hg : W.heap[g]? = some (.cells #[.slice a n cap, .int .i64 (i : Int), .int .i64 v] 100 (0, 0))) (hi : i < n) (hn : n ≤ 1099511627776) (hcode : Code8 W g n a) :
    Cur (W.setCell ⟨g, 1, none⟩ (.int .i64 ((i : Int) + 1))) g := by
  have h1 := heap_setCell_same W g 1 _ _ (.int .i64 ((i : Int) + 1)) hg
  refine ⟨a, n, cap, i + 1, v, ?_, hi, hn, hcode.keeps fun p hp => World.cell?_setCell_other _ _ _ _ (fun e => by subst e; exact Nat.lt_irrefl _ hp)⟩
  simpa using h1
theorem only_set {w W : World} {g i : Nat} {u : Value} (h : w.grownBy W (some g)) : w.grownBy (W.setCell ⟨g, i, none⟩ u) (some g) :=
  ⟨h.os, h.tape, h.output, by simpa using h.size, fun k hk hne => (heap_setCell_other W ⟨g, i, none⟩ k _ (fun e => hne (by simp [e]))).trans (h.block k hk hne)⟩
theorem only_draws {w W : World} {r : Option Nat} (h : w.grownBy W r) (n : Nat) : w.grownBy (W.drewN n) r := ⟨h.os, h.tape, h.output, h.size, h.block⟩

/-- What a draw does to the world: block g alone may have turned. -/
def ByteEnd (g : Nat) (w : World) (e : Ending) (w' : World) : Prop := ∃ x : Nat, x ≤ 255 ∧ e = .returned (.int .i64 (x : Int)) ∧ Cur w' g ∧ w.grownBy w' (some g)

set_option maxRecDepth 100000 in
set_option maxHeartbeats 800000 in
theorem drawByte (g : Nat) (w : World) (hcur : Cur w g) : Calls Tryz.prog 96 #[.pointer (some ⟨g, 0, none⟩)] w (ByteEnd g w) := by
  obtain ⟨a, n, cap, i, h, hg, hin, hn, hcode⟩ := hcur
  have c0 : w.cell? ⟨g, 0, none⟩ = some (.slice a n cap) := cell_of_row w g 0 _ _ (0, 0) hg
  have c1 : w.cell? ⟨g, 1, none⟩ = some (.int .i64 (i : Int)) := cell_of_row w g 1 _ _ (0, 0) hg
  have c2 : w.cell? ⟨g, 2, none⟩ = some (.int .i64 h) := cell_of_row w g 2 _ _ (0, 0) hg
  have f1 : w.frozen? ⟨g, 1, none⟩ = false := frozen_of_row w g 1 _ _ hg
  have f2 : w.frozen? ⟨g, 2, none⟩ = false := frozen_of_row w g 2 _ _ hg
  go_enter Tryz.func96, Tryz.ntmps96
  go_wp2
  generalize wrap64 (wrap64 (h * 6364136223846793005) + 1442695040888963407) = v
  have hg1 : (w.setCell ⟨g, 2, none⟩ (.int .i64 v)).heap[g]? = some (.cells #[.slice a n cap, .int .i64 (i : Int), .int .i64 v] 100 (0, 0)) := by
    have h1 := heap_setCell_same w g 2 _ _ (.int .i64 v) hg
    simpa using h1
  have hw1 : w.grownBy (w.setCell ⟨g, 2, none⟩ (.int .i64 v)) (some g) :=
    ⟨rfl, rfl, rfl, by simp, fun k _ hk => heap_setCell_other w ⟨g, 2, none⟩ k _ (fun e => hk (by simp [e]))⟩
  clear c0 c1 c2 f1 f2
  generalize w.setCell ⟨g, 2, none⟩ (.int .i64 v) = w1 at *
  have c0 : w1.cell? ⟨g, 0, none⟩ = some (.slice a n cap) := cell_of_row w1 g 0 _ _ (0, 0) hg1
  have c1 : w1.cell? ⟨g, 1, none⟩ = some (.int .i64 (i : Int)) := cell_of_row w1 g 1 _ _ (0, 0) hg1
  have c2 : w1.cell? ⟨g, 2, none⟩ = some (.int .i64 v) := cell_of_row w1 g 2 _ _ (0, 0) hg1
  have f1 : w1.frozen? ⟨g, 1, none⟩ = false := frozen_of_row w1 g 1 _ _ hg1
  have hcode1 : Code8 w1 g n a := hcode.keeps fun p hp => by
    have hgl : g < w.heap.size := by
      rcases Nat.lt_or_ge g w.heap.size with h1 | h1
      · exact h1
      · rw [Array.getElem?_eq_none h1] at hg; cases hg
    exact World.cell?_of_block (hw1.block p.block (by omega) (fun e => by injection e with e; omega))
  have Hg1 := Lib.hid hg1
  have Hw1 := Lib.hid hw1
  clear hg hg1 hw1 hcode
  go_quiet (fail)
  obtain ⟨x, hx, ex⟩ := and255 (bits BinOp.xor .i64 (v / 8589934592) (v / 35184372088832))
  rw [ex]
  clear ex
  by_cases hlt : i < n
  · obtain ⟨b, o, c, rfl, hbg, hc, hcc⟩ := hcode1 i hlt
    have hlti : (i : Int) < (n : Int) := by omega
    go_wp2
    go_quiet (fail)
    go_wp2
    go_quiet (fail)
    obtain ⟨y, hy, ey⟩ := and255 ((x : Int) + (c : Int))
    rw [ey]
    clear ey
    go_wp2
    go_ret
    exact ⟨y, hy, rfl, cur_step (W := w1.drewN _) Hg1.out hlt hn hcode1, only_set (only_draws Hw1.out _)⟩
  · have hge : ¬ (i : Int) < (n : Int) := by omega
    go_wp2
    go_quiet (fail)
    go_wp2
    go_ret
    exact ⟨x, hx, rfl, ⟨a, n, cap, i, v, Hg1.out, hin, hn, hcode1⟩, only_draws (only_draws Hw1.out _) _⟩

def BelowEnd (g n : Nat) (w : World) (e : Ending) (w' : World) : Prop := ∃ x : Nat, x < n ∧ e = .returned (.int .i64 (x : Int)) ∧ Cur w' g ∧ w.grownBy w' (some g)

theorem only_then {a b c : World} {g : Nat} (h : a.grownBy b (some g)) (k : b.grownBy c (some g)) : a.grownBy c (some g) :=
  ⟨k.os.trans h.os, k.tape.trans h.tape, k.output.trans h.output, Nat.le_trans h.size k.size, fun i hi hne => (k.block i (Nat.lt_of_lt_of_le hi h.size) hne).trans (h.block i hi hne)⟩

set_option maxHeartbeats 400000 in
theorem drawBelow_small (g n : Nat) (w : World) (h0 : 0 < n) (h1 : n ≤ 256) (hcur : Cur w g) : Calls Tryz.prog 45 #[.pointer (some ⟨g, 0, none⟩), .int .i64 (n : Int)] w (BelowEnd g n w) := by
  go_enter Tryz.func45, Tryz.ntmps45
  go_wp2_with fail
  refine (drawByte g _ hcur).mono ?_
  rintro e w1 ⟨x, hx, rfl, hc1, hw1⟩
  go_wp2
  go_ret
  exact ⟨x % n, Nat.mod_lt _ h0, by simp, hc1, hw1⟩

set_option maxHeartbeats 400000 in
theorem drawBelow_great (g n : Nat) (w : World) (h0 : 256 < n) (h1 : n ≤ 1099511627776) (hcur : Cur w g) : Calls Tryz.prog 45 #[.pointer (some ⟨g, 0, none⟩), .int .i64 (n : Int)] w (BelowEnd g n w) := by
  go_enter Tryz.func45, Tryz.ntmps45
  go_wp2_with fail
  refine (drawByte g _ hcur).mono ?_
  rintro e w1 ⟨x, hx, rfl, hc1, hw1⟩
  go_wp2_with fail
  refine (drawByte g _ hc1).mono ?_
  rintro e w2 ⟨y, hy, rfl, hc2, hw2⟩
  go_wp2_with fail
  refine (drawByte g _ hc2).mono ?_
  rintro e w3 ⟨z, hz, rfl, hc3, hw3⟩
  go_wp2_with fail
  refine (drawByte g _ hc3).mono ?_
  rintro e w4 ⟨u, hu, rfl, hc4, hw4⟩
  go_wp2
  go_ret
  exact ⟨(x * 16777216 + y * 65536 + z * 256 + u) % n, Nat.mod_lt _ (by omega), by simp, hc4, only_then (only_then (only_then hw1 hw2) hw3) hw4⟩

theorem drawBelow (g n : Nat) (w : World) (h0 : 0 < n) (h1 : n ≤ 1099511627776) (hcur : Cur w g) : Calls Tryz.prog 45 #[.pointer (some ⟨g, 0, none⟩), .int .i64 (n : Int)] w (BelowEnd g n w) := by
  by_cases h : n ≤ 256
  · exact drawBelow_small g n w h0 h hcur
  · exact drawBelow_great g n w (by omega) h1 hcur

theorem and_mask (y : Int) (m : Nat) (hm : m ≤ 9223372036854775807) : ∃ x : Nat, x ≤ m ∧ bits .and .i64 y (m : Int) = (x : Int) := by
  have h : bits .and .i64 y (m : Int) = IntKind.i64.wrap ((BitVec.ofInt 64 y &&& BitVec.ofInt 64 (m : Int)).toNat : Int) := rfl
  have hle : (BitVec.ofInt 64 y &&& BitVec.ofInt 64 (m : Int)).toNat ≤ m := by
    rw [BitVec.toNat_and]
    have h2 : (BitVec.ofInt 64 (m : Int)).toNat = m := by
      rw [BitVec.ofInt_natCast, BitVec.toNat_ofNat]
      exact Nat.mod_eq_of_lt (by omega)
    rw [h2]
    exact Nat.and_le_right
  refine ⟨(BitVec.ofInt 64 y &&& BitVec.ofInt 64 (m : Int)).toNat, hle, ?_⟩
  rw [h, IntKind.wrap_i64]
  omega

/-- A new cursor. -/
def NewEnd (w : World) (e : Ending) (w' : World) : Prop := ∃ g, e = .returned (.pointer (some ⟨g, 0, none⟩)) ∧ w.heap.size ≤ g ∧ Cur w' g ∧ Below w.heap.size w w'

theorem new_end {w : World} {a : Option Addr} {n cap : Nat} {x : Int} (hn : n ≤ 1099511627776) (hcode : Code8 w w.heap.size n a) :
    NewEnd w (.returned (.pointer (some ⟨w.heap.size, 0, none⟩))) (w.alloc (.cells #[.slice a n cap, .int .i64 0, .int .i64 x] 100)) :=
  ⟨w.heap.size, rfl, Nat.le_refl _, ⟨a, n, cap, 0, x, heap_alloc_new w _, Nat.zero_le _, hn, hcode.keeps fun _ hp => ((Below.refl w.heap.size w).alloc (Nat.le_refl _) _).cell hp⟩, (Below.refl _ _).alloc (Nat.le_refl _) _⟩

set_option maxRecDepth 100000 in
set_option maxHeartbeats 800000 in
theorem drawNew (a : Option Addr) (n cap : Nat) (w : World) (hn : n ≤ 1099511627776) (hcode : Code8 w w.heap.size n a) : Calls Tryz.prog 30 #[.slice a n cap] w (NewEnd w) := by
  go_enter Tryz.func30, Tryz.ntmps30
  go_wp2
  go_loop [3, 4] (fun h i => ∃ (k : Nat) (x : Int), k ≤ n ∧ i = .int .i64 (k : Int) ∧ h = .int .i64 x ∧ 0 ≤ x ∧ x ≤ 2199023255552) (fun _ i => n - (intOf i).toNat)
  case atStart => exact ⟨0, _, Nat.zero_le _, rfl, rfl, by omega, by omega⟩
  case round =>
    obtain ⟨k, x, hk, rfl, rfl, hx0, hx1⟩ := hrel
    by_cases hlt : k < n
    · obtain ⟨b, o, c, rfl, hbg, hc, hcc⟩ := hcode k hlt
      by_cases hlim : (k : Int) < 4000
      · obtain ⟨y, hy, ey⟩ := and_mask (x * 131 + (c : Int) + 7) 1073741823 (by omega)
        have ey' : bits .and .i64 (x * 131 + (c : Int) + 7) 1073741823 = (y : Int) := ey
        have Hey := Lib.hid ey'
        clear ey ey'
        go_wp2
        go_round
        case rel => exact ⟨k + 1, (y : Int), by omega, by go_num, by rw [Hey.out], by omega, by omega⟩
        case measure => simp [intOf]; omega
      · go_wp2
        go_ret
        exact new_end hn hcode
    · go_wp2
      go_ret
      exact new_end hn hcode
end Go.Proofs.YtplchhahjmoodaaGreatDoor

namespace Go.Proofs.YtplchhahjmoodaaGreatDoor
open Go Go.RowKit

theorem only_alloc {w W : World} {r : Option Nat} (h : w.grownBy W r) (o : Obj) : w.grownBy (W.alloc o) r :=
  ⟨h.os, h.tape, h.output, Nat.le_trans h.size (by simp), fun k hk hne => (Below.heap_alloc W o k (Nat.lt_of_lt_of_le hk h.size)).trans (h.block k hk hne)⟩
theorem only_below {w W W' : World} {r : Option Nat} (h : w.grownBy W r) (hb : Below W.heap.size W W') : w.grownBy W' r :=
  ⟨hb.os.trans h.os, hb.tape.trans h.tape, hb.output.trans h.output, Nat.le_trans h.size hb.size, fun k hk hne => (hb.block k (Nat.lt_of_lt_of_le hk h.size)).trans (h.block k hk hne)⟩
theorem only_same (w : World) (r : Option Nat) : w.grownBy w r := ⟨rfl, rfl, rfl, Nat.le_refl _, fun _ _ _ => rfl⟩
theorem below_only {B g : Nat} {a w W : World} (h : Below B a w) (hg : w.grownBy W (some g)) (hB : B ≤ w.heap.size) (hBg : B ≤ g) : Below B a W :=
  h.grown hg hB fun k hk => by cases hk; exact hBg
theorem Cur.alloc {w : World} {g : Nat} (h : Cur w g) (o : Obj) : Cur (w.alloc o) g := h.keeps ((Below.refl _ _).alloc (Nat.le_refl _) _)

/-- A list beside the cursor. -/
def Beside (w : World) (g : Nat) (a : Option Addr) (xs : List Value) : Prop := ∀ k x, xs[k]? = some x → ∃ b o, a = some ⟨b, o, none⟩ ∧ b ≠ g ∧ b < w.heap.size ∧ w.cell? ⟨b, o + k, none⟩ = some x
theorem beside_new {w : World} {g : Nat} {t : TypeId} (cs : Array Value) (hg : g < w.heap.size) : Beside (w.alloc (.cells cs t)) g (some ⟨w.heap.size, 0, none⟩) cs.toList := by
  intro k x hx
  refine ⟨w.heap.size, 0, rfl, by omega, by simp, ?_⟩
  rw [World.cell?_alloc_at _ _ _ _ rfl, Nat.zero_add]
  simpa using hx

def PickEnd (g : Nat) (xs : List Value) (w : World) (e : Ending) (w' : World) : Prop := ∃ x ∈ xs, e = .returned x ∧ Cur w' g ∧ w.grownBy w' (some g)
theorem bigNo (a : Option Addr) (n cap : Nat) (w : World) (h : n ≤ 1048576) : Calls Tryz.prog 5 #[.slice a n cap] w fun e w' => e = .returned (.bool false) ∧ w = w' := by
  have hd : decide ((1048576 : Int) < (n : Int)) = false := by simp; omega
  go_enter Tryz.func5, Tryz.ntmps5
  go_wp2
  go_ret
  exact ⟨rfl, rfl⟩
theorem bigYes (a : Option Addr) (n cap : Nat) (w : World) (hm : n ≤ maxLen) (h : 1048576 < n) : Calls Tryz.prog 5 #[.slice a n cap] w fun e w' => e = .returned (.bool true) ∧ w = w' := by
  unfold maxLen at hm
  have hd : decide ((1048576 : Int) < (n : Int)) = true := by simp; omega
  go_enter Tryz.func5, Tryz.ntmps5
  go_wp2
  go_ret
  exact ⟨rfl, rfl⟩

open Go.ChangeShapes Go.WideShapes Go.ChangeAt in
/-- A []byte argument, opened. -/
theorem open_codes {H : Type} {enc : TypeId × Value → H} {P : Program} {W : World} {t e : TypeId} {v : Value} {d : DataW H} {ps : List MemPlace} {base : Nat}
    (ht : P.underlying t = some (.slice e)) (he : P.underlying e = some (.int .u8)) (hc : P.cellsOf e = 1) (hlt : ∀ x ∈ ps, x.block < W.heap.size)
    (hval : Value.okWide P W .any base t v) (h : DataW.Trod enc P W 0 (fun _ => true) true t v d ps) :
    ∃ (a : Option Addr) (n cap : Nat), v = .slice a n cap ∧ n ≤ cap ∧ n ≤ maxLen ∧ Code8 W W.heap.size n a := by
  obtain ⟨a0, len, cap, rfl⟩ := okWide_slice ht hval
  obtain ⟨fuel, hf⟩ := h
  rcases open_ints ht he hc hf with ⟨hcs, hx⟩ | ⟨a, len', cap', zs, hcs, _, hl, hm, hz, hx, hcell, hws⟩
  · simp [Value.cells] at hcs
    obtain ⟨rfl, rfl, rfl⟩ := hcs
    exact ⟨none, 0, 0, rfl, Nat.le_refl _, Nat.zero_le _, fun k hk => by omega⟩
  · simp [Value.cells] at hcs
    obtain ⟨rfl, rfl, rfl⟩ := hcs
    simp only [Prod.mk.injEq] at hx
    obtain ⟨rfl, rfl⟩ := hx
    simp only [if_true] at hz
    refine ⟨some a, len, cap, rfl, hl, by omega, fun k hk => ?_⟩
    have hkz : k < zs.length := by omega
    obtain ⟨b, off, spot⟩ := a
    have hspot : spot = none := by simpa [Addr.add] using World.cell?_spot (hcell 0 (by omega))
    subst hspot
    have hwf := u8_bounds (hws (zs.getD k 0) (by simp [List.getD, hkz]))
    refine ⟨b, off, (zs.getD k 0).toNat, rfl, hlt (.cell b (off + 0)) (MemPlace.mem_row.2 ⟨0, by omega, by simp⟩), by omega, ?_⟩
    rw [← add_plain, hcell k (by omega)]
    rw [Int.toNat_of_nonneg hwf.1]
end Go.Proofs.YtplchhahjmoodaaGreatDoor

namespace Go.Proofs.YtplchhahjmoodaaGreatDoor
open Go Go.RowKit

def FlagEnd (g : Nat) (w : World) (e : Ending) (w' : World) : Prop := ∃ b : Bool, e = .returned (.bool b) ∧ Cur w' g ∧ w.grownBy w' (some g)
theorem drawOnce (g n : Nat) (w : World) (h0 : 0 < n) (h1 : n ≤ 1099511627776) (hcur : Cur w g) : Calls Tryz.prog 46 #[.pointer (some ⟨g, 0, none⟩), .int .i64 (n : Int)] w (FlagEnd g w) := by
  go_enter Tryz.func46, Tryz.ntmps46
  go_wp2_with fail
  refine (drawBelow g n _ h0 h1 hcur).mono ?_
  rintro e w1 ⟨x, hx, rfl, hc1, hw1⟩
  go_wp2
  go_ret
  exact ⟨_, rfl, hc1, hw1⟩

end Go.Proofs.YtplchhahjmoodaaGreatDoor

namespace Go.Proofs.YtplchhahjmoodaaGreatDoor
open Go Go.RowKit

theorem drawPick (g cap : Nat) (a : Option Addr) (ss : List ByteArray) (w : World) (h0 : 0 < ss.length) (h1 : ss.length ≤ 1099511627776) (hcur : Cur w g) (hl : Beside w g a (strVals ss)) :
    Calls Tryz.prog 87 #[.pointer (some ⟨g, 0, none⟩), .slice a ss.length cap] w (PickEnd g (strVals ss) w) := by
  go_enter Tryz.func87, Tryz.ntmps87
  go_wp2_with fail
  refine (drawBelow g ss.length _ h0 h1 hcur).mono ?_
  rintro e w1 ⟨x, hx, rfl, hc1, hw1⟩
  obtain ⟨b, o, rfl, hbg, hbw, hc⟩ := hl x (.string ss[x]) (by simp [strVals, hx])
  have hc2 : w1.cell? ⟨b, o + x, none⟩ = some (.string ss[x]) := hw1.cell hc (by simpa using hbg)
  clear hc
  go_wp2
  go_ret
  exact ⟨.string ss[x], by simp [strVals], rfl, hc1, hw1⟩
end Go.Proofs.YtplchhahjmoodaaGreatDoor

namespace Go.Proofs.YtplchhahjmoodaaGreatDoor
open Go Go.RowKit

theorem drawPickInt (g cap : Nat) (a : Option Addr) (ns : List Int) (w : World) (h0 : 0 < ns.length) (h1 : ns.length ≤ 1099511627776) (hcur : Cur w g) (hl : Beside w g a (intVals ns)) :
    Calls Tryz.prog 44 #[.pointer (some ⟨g, 0, none⟩), .slice a ns.length cap] w (PickEnd g (intVals ns) w) := by
  go_enter Tryz.func44, Tryz.ntmps44
  go_wp2_with fail
  refine (drawBelow g ns.length _ h0 h1 hcur).mono ?_
  rintro e w1 ⟨x, hx, rfl, hc1, hw1⟩
  obtain ⟨b, o, rfl, hbg, hbw, hc⟩ := hl x (.int .i64 ns[x]) (by simp [intVals, hx])
  have hc2 : w1.cell? ⟨b, o + x, none⟩ = some (.int .i64 ns[x]) := hw1.cell hc (by simpa using hbg)
  clear hc
  go_wp2
  go_ret
  exact ⟨.int .i64 ns[x], by simp [intVals], rfl, hc1, hw1⟩

end Go.Proofs.YtplchhahjmoodaaGreatDoor
/-
  The draws of chapter 2: a name, a list of names, a list of numbers: of what is drawn only the range is told.
-/
namespace Go.Proofs.YtplchhahjmoodaaGreatDoor
open Go Go.RowKit

theorem Cur.upto {w w' : World} {g : Nat} (h : Cur w g) (hb : Below (g + 1) w w') : Cur w' g := by
  obtain ⟨a, n, cap, i, x, hg, h1, h2, h3⟩ := h
  exact ⟨a, n, cap, i, x, (hb.block g (by omega)).trans hg, h1, h2, h3.keeps fun p hp => hb.cell (by omega)⟩
theorem Cur.own {w w' : World} {g : Nat} {e n : Nat} {v : Value} {xs : List Value} (h : Cur w g) (hown : w.ownsRow (g + 1) e 1 v n xs) (hg : w.grownBy w' v.ownBlock) : Cur w' g :=
  h.upto ((Below.refl _ _).grown hg h.lt fun k hk => (hown.lt k hk).1)
theorem own_drawn {w w' : World} {g : Nat} {e n : Nat} {v : Value} {xs : List Value} (hown : w.ownsRow (g + 1) e 1 v n xs) (hg : w.grownBy w' (some g)) : w'.ownsRow (g + 1) e 1 v n xs :=
  own_other hown hg fun k hk e => by
    have := (hown.lt k hk).1
    injection e with e
    omega

def drawnNames : List ByteArray := [⟨#[120]⟩, ⟨#[97, 98]⟩, ⟨#[97, 98, 99]⟩, ⟨#[]⟩, ⟨#[88]⟩, ⟨#[120, 49]⟩, ⟨#[97, 45]⟩]
theorem drawnNames_size : ∀ s ∈ drawnNames, s.size ≤ 21 := by decide
def ShortTextEnd (w : World) (e : Ending) (w' : World) : Prop := ∃ s : ByteArray, s.size ≤ 21 ∧ e = .returned (.string s) ∧ Below w.heap.size w w'
def drawnVars : List ByteArray := [⟨#[120]⟩, ⟨#[121]⟩, ⟨#[116]⟩, ⟨#[112]⟩, ⟨#[113, 113]⟩, ⟨#[88]⟩]
theorem drawnVars_size : ∀ s ∈ drawnVars, s.size ≤ 21 := by decide
/-- A list of short strings, drawn. -/
def DrawnStrs (w : World) (e : Ending) (w' : World) : Prop :=
  ∃ (a : Option Addr) (cap : Nat) (ss : List ByteArray), e = .returned (.slice a ss.length cap) ∧ ss.length ≤ 6 ∧ (∀ s ∈ ss, s.size ≤ 21) ∧ w'.ownsRow w.heap.size 9 1 (.slice a ss.length cap) ss.length (strVals ss) ∧ Below w.heap.size w w'
theorem drawn_end {w w' : World} {base : Nat} {v : Value} {qs : List ByteArray} (hw : w.heap.size ≤ base) (hl : qs.length ≤ 6) (hs : ∀ s ∈ qs, s.size ≤ 21) (h : w'.ownsRow base 9 1 v qs.length (strVals qs)) (hb : Below w.heap.size w w') : DrawnStrs w (.returned v) w' := by
  obtain ⟨a5, c5, hv5⟩ : ∃ a5 c5, v = .slice a5 qs.length c5 := by
    rcases h.2 with ⟨h1, h2⟩ | ⟨g5, c5, _, h1, _⟩
    · exact ⟨none, 0, by rw [h1, h2]⟩
    · exact ⟨_, c5, h1⟩
  subst hv5
  exact ⟨a5, c5, qs, rfl, hl, hs, own_base h hw, hb⟩
theorem all_snoc {α : Type} {P : α → Prop} {l : List α} {x : α} (h : ∀ y ∈ l, P y) (hx : P x) : ∀ y ∈ l ++ [x], P y := by
  intro y hy
  rcases List.mem_append.1 hy with h1 | h1
  · exact h y h1
  · rw [List.mem_singleton.1 h1]
    exact hx
theorem strInfo2 : (Tryz.prog.info? 9).map (fun i => (i.zero, i.size, i.bytes)) = some (some (.string ⟨#[]⟩), 1, 16) := by kernel_rfl
def drawnKeys : List ByteArray := [⟨#[120]⟩, ⟨#[121]⟩, ⟨#[122, 122]⟩]
theorem drawnKeys_size : ∀ s ∈ drawnKeys, s.size ≤ 21 := by decide
def DrawnStrsKey (w : World) (e : Ending) (w' : World) : Prop :=
  ∃ (a : Option Addr) (cap : Nat) (ss : List ByteArray) (s : ByteArray), e = .returned (.tuple #[.slice a ss.length cap, .string s]) ∧ ss.length ≤ 6 ∧ s.size ≤ 21 ∧ (∀ s ∈ ss, s.size ≤ 21) ∧ Row w' w'.heap.size a (strVals ss) ∧ Below w.heap.size w w'
/-- A list of small ints and one, drawn. -/
def DrawnInts (w : World) (e : Ending) (w' : World) : Prop :=
  ∃ (a : Option Addr) (cap : Nat) (ns : List Int) (n : Int), e = .returned (.tuple #[.slice a ns.length cap, .int .i64 n]) ∧ ns.length ≤ 6 ∧ Row w' w'.heap.size a (intVals ns) ∧ Below w.heap.size w w'
theorem drawnInts_end {w w' : World} {base e : Nat} {v : Value} {qs : List Int} {n : Int} (hl : qs.length ≤ 6) (h : w'.ownsRow base e 1 v qs.length (intVals qs)) (hb : Below w.heap.size w w') : DrawnInts w (.returned (.tuple #[v, .int .i64 n])) w' := by
  obtain ⟨a5, c5, hv5⟩ : ∃ a5 c5, v = .slice a5 qs.length c5 := by
    rcases h.2 with ⟨h1, h2⟩ | ⟨g5, c5, _, h1, _⟩
    · exact ⟨none, 0, by rw [h1, h2]⟩
    · exact ⟨_, c5, h1⟩
  subst hv5
  exact ⟨a5, c5, qs, n, rfl, hl, Row.owned h, hb⟩
theorem intInfo2 : (Tryz.prog.info? 3).map (fun i => (i.zero, i.size, i.bytes)) = some (some (.int .i64 0), 1, 8) := by kernel_rfl
end Go.Proofs.YtplchhahjmoodaaGreatDoor
/-
  A text that a draw turns a little: of what is drawn only its length is told.
-/
namespace Go.Proofs.YtplchhahjmoodaaGreatDoor
open Go Go.RowKit

/-- A text of at most n bytes, drawn. -/
def TextDrawn (g n : Nat) (w : World) (e : Ending) (w' : World) : Prop := ∃ s : ByteArray, s.size ≤ n ∧ e = .returned (.string s) ∧ Cur w' g ∧ w.grownBy w' (some g)
theorem extract_size (s : ByteArray) (i j : Nat) : (s.extract i j).size ≤ s.size := by
  rw [ByteArray.size_extract]
  omega
theorem joined_size {s x : ByteArray} {i n : Nat} (hs : s.size ≤ n) (hx : x.size ≤ 21) (hi : i ≤ s.size) : (s.extract 0 i ++ x ++ s.extract i s.size).size ≤ n + 21 := by
  rw [ByteArray.size_append, ByteArray.size_append, ByteArray.size_extract, ByteArray.size_extract]
  omega

theorem Beside.only {w w' : World} {g : Nat} {a : Option Addr} {xs : List Value} (h : Beside w g a xs) (hg : w.grownBy w' (some g)) : Beside w' g a xs := by
  intro k x hx
  obtain ⟨b, o, rfl, hne, hb, hc⟩ := h k x hx
  exact ⟨b, o, rfl, hne, Nat.lt_of_lt_of_le hb hg.size, hg.cell hc (fun e => hne (Option.some.inj e))⟩

def PickS (g : Nat) (ss : List ByteArray) (w : World) (e : Ending) (w' : World) : Prop := ∃ s ∈ ss, e = .returned (.string s) ∧ Cur w' g ∧ w.grownBy w' (some g)
theorem drawPickS (g cap : Nat) (a : Option Addr) (ss : List ByteArray) (w : World) (h0 : 0 < ss.length) (h1 : ss.length ≤ 1099511627776) (hcur : Cur w g) (hl : Beside w g a (strVals ss)) :
    Calls Tryz.prog 87 #[.pointer (some ⟨g, 0, none⟩), .slice a ss.length cap] w (PickS g ss w) := by
  refine (drawPick g cap a ss w h0 h1 hcur hl).mono ?_
  rintro e w' ⟨v, hv, rfl, hc, hw⟩
  obtain ⟨s, hm, rfl⟩ := List.mem_map.1 hv
  exact ⟨s, hm, rfl, hc, hw⟩

set_option maxHeartbeats 1600000 in
theorem drawTurned (g cap n : Nat) (a : Option Addr) (ss : List ByteArray) (s : ByteArray) (w : World) (hn : s.size ≤ n) (hn2 : n ≤ 1099511627775) (h0 : 0 < ss.length) (h1 : ss.length ≤ 1099511627776) (hss : ∀ x ∈ ss, x.size ≤ 21) (hcur : Cur w g) (hl : Beside w g a (strVals ss)) :
    Calls Tryz.prog 41 #[.pointer (some ⟨g, 0, none⟩), .string s, .slice a ss.length cap] w (TextDrawn g (n + 21) w) := by
  go_enter Tryz.func41, Tryz.ntmps41
  go_wp2_with fail
  refine (drawBelow g (s.size + 1) _ (by omega) (by omega) hcur).mono ?_
  rintro e w1 ⟨x, hx, rfl, hc1, hw1⟩
  go_wp2_with fail
  refine (drawBelow g 6 _ (by omega) (by omega) hc1).mono ?_
  rintro e w2 ⟨y, hy, rfl, hc2, hw2⟩
  have hw12 := only_then hw1 hw2
  have q0 : (0 : Int) ≤ (x : Int) := by omega
  have q1 : (x : Int) ≤ (s.size : Int) := by omega
  by_cases hy0 : y = 0
  · subst hy0
    have hcd : Cur w2.drew g := hc2.keeps (Below.refl _ _).drew
    have hld : Beside w2.drew g a (strVals ss) := (hl.only hw12).only (w' := w2.drew) (only_draws (only_same w2 _) 1)
    have HCD := Lib.hid hcd
    have HLD := Lib.hid hld
    clear hcd hld
    have hmn : min x s.size = x := by omega
    go_wp2
    go_region_held3 (fun _ => True) (first | trivial) (first | (go_at_call 87; refine (drawPickS g cap a ss _ h0 h1 HCD.out HLD.out).mono ?_; rintro e w3 ⟨s3, hm3, rfl, hc3, hw3⟩; have hz3 := hss s3 hm3; have hA1 := fun W => run_string_add_sum (P := Tryz.prog) W (s.extract 0 x) s3 (by have := extract_size s 0 x; omega); have hA2 := fun W => run_string_add_sum (P := Tryz.prog) W (s.extract 0 x ++ s3) (s.extract x s.size) (by have := joined_size hn hz3 (i := x) (by omega); rw [ByteArray.size_append] at this; omega)))
    all_goals
      first
      | (go_wp2; go_ret; exact ⟨_, joined_size hn hz3 (by omega), rfl, hc3, only_then hw12 (only_then (only_draws (only_same w2 _) 1) hw3)⟩)
      | (exfalso; have hmin : min x s.size = x := by omega
         rw [hmin] at *; omega)
  · have e0 : ((y : Int) == 0) = false := by simp only [beq_eq_false_iff_ne, ne_eq]; omega
    by_cases hy1 : y = 1
    · subst hy1
      go_wp2
      go_ret
      exact ⟨_, Nat.le_trans (extract_size _ _ _) (by omega), rfl, hc2, hw12⟩
    · have e1 : ((y : Int) == 1) = false := by simp only [beq_eq_false_iff_ne, ne_eq]; omega
      go_wp2
      go_ret
      exact ⟨s, by omega, rfl, hc2, hw12⟩
end Go.Proofs.YtplchhahjmoodaaGreatDoor
/-
  What the walks of draws share: boxes of any number of cells, the cursor beside what is made since, in the words of intervals.
-/
namespace Go.Proofs.YtplchhahjmoodaaGreatDoor
open Go Go.RowKit

theorem turn_drawn {W W' : World} {g : Nat} (h : W.grownBy W' (some g)) : Turn g (g + 1) W W' := Turn.of_grown h fun k hk => by have := Option.some.inj hk; omega
/-- The cursor, and that nothing else that was there has turned. -/
structure Dg (w : World) (g : Nat) (W : World) : Prop where
  cur : Cur W g
  grown : w.grownBy W (some g)
  hg : g < w.heap.size
section
variable {w W W' : World} {g lo hi : Nat}
theorem Dg.start (h : Cur w g) : Dg w g w := ⟨h, only_same _ _, h.lt⟩
theorem Dg.draw (h : Dg w g W) (hc : Cur W' g) (hw : W.grownBy W' (some g)) : Dg w g W' := ⟨hc, only_then h.grown hw, h.hg⟩
theorem Dg.turn (h : Dg w g W) (t : Turn lo hi W W') (hl : w.heap.size ≤ lo) : Dg w g W' :=
  have hg := h.hg
  have hs := h.grown.size
  ⟨h.cur.upto ⟨t.os, t.tape, t.output, t.size, fun k hk => t.block k (by omega) (.inl (by omega))⟩,
    ⟨t.os.trans h.grown.os, t.tape.trans h.grown.tape, t.output.trans h.grown.output, Nat.le_trans hs t.size, fun k hk hne => (t.block k (by omega) (.inl (by omega))).trans (h.grown.block k hk hne)⟩, hg⟩
theorem Dg.below (h : Dg w g W) (hb : Below W.heap.size W W') : Dg w g W' := h.turn (lo := w.heap.size) (hi := w.heap.size) (Turn.of_below hb) (Nat.le_refl _)
end
end Go.Proofs.YtplchhahjmoodaaGreatDoor
/-
  A formula, drawn. (Printed by wip/tools/gen_draw_tree.py.)
-/
namespace Go.Proofs.YtplchhahjmoodaaGreatDoor
open Go Go.RowKit Go.ChangeAt Go.ChangeShapes Go.WideShapes

def TreeDrawn (n g : Nat) (w : World) (e : Ending) (w' : World) : Prop :=
  ∃ t : Ft, e = .returned t.val ∧ t.er.size ≤ n ∧ Dg w g w' ∧ t.Mine w' w.heap.size w'.heap.size
def treeB : Nat → Nat | 0 => 1 | d + 1 => 2 * treeB d + 1
theorem treeB_pos : ∀ d, 1 ≤ treeB d | 0 => Nat.le_refl _ | d + 1 => by have := treeB_pos d; simp only [treeB]; omega
def zeroCells : List Value := [.int .i64 0, .int .i64 0, .int .i64 0, .int .i64 0, .slice none 0 0]
theorem wrap_one {z : Nat} (h : z ≤ 1000) : IntKind.i64.wrap (1 + (z : Int)) = 1 + (z : Int) := by
  rw [IntKind.wrap_i64]; omega
theorem wrap_eight {z : Nat} (h : z ≤ 1000) : IntKind.i64.wrap (8 + (z : Int)) = 8 + (z : Int) := by
  rw [IntKind.wrap_i64]; omega
theorem wrap_less {z : Nat} (h : z ≤ 1000) : IntKind.i64.wrap ((z : Int) - 1) = (z : Int) - 1 := by
  rw [IntKind.wrap_i64]; omega
/-- The result's box and the node's box, beside the cursor. -/
structure Two (w : World) (g b : Nat) (xs ys : List Value) (W : World) : Prop where
  d : Dg w g W
  r : BoxL W w.heap.size xs
  x : BoxL W b ys
  lt : w.heap.size < b
section
variable {w W W' : World} {g b : Nat} {xs ys : List Value}
theorem Two.draw (h : Two w g b xs ys W) (hc : Cur W' g) (hw : W.grownBy W' (some g)) : Two w g b xs ys W' :=
  have hg := h.d.hg
  have hl := h.lt
  ⟨h.d.draw hc hw, h.r.turn (turn_drawn hw) (.inr (by omega)), h.x.turn (turn_drawn hw) (.inr (by omega)), h.lt⟩
theorem Two.below (h : Two w g b xs ys W) (hb : Below W.heap.size W W') : Two w g b xs ys W' := ⟨h.d.below hb, h.r.below hb, h.x.below hb, h.lt⟩
theorem Two.put (h : Two w g b xs ys W) (i : Nat) (u : Value) : Two w g b xs (ys.set i u) (W.setCell ⟨b, i, none⟩ u) :=
  have hl := h.lt
  ⟨h.d.turn (turn_set W b i u) (by omega), h.r.turn (turn_set W b i u) (.inl hl), h.x.set i u, h.lt⟩
theorem Two.res (h : Two w g b xs ys W) (i : Nat) (u : Value) : Two w g b (xs.set i u) ys (W.setCell ⟨w.heap.size, i, none⟩ u) :=
  have hl := h.lt
  ⟨h.d.turn (turn_set W w.heap.size i u) (Nat.le_refl _), h.r.set i u, h.x.turn (turn_set W w.heap.size i u) (.inr (by omega)), h.lt⟩
theorem Two.turn (h : Two w g b xs ys W) {lo hi : Nat} (t : Turn lo hi W W') (hl : b < lo) : Two w g b xs ys W' :=
  have h1 := h.lt
  ⟨h.d.turn t (by omega), h.r.turn t (.inl (by omega)), h.x.turn t (.inl hl), h.lt⟩
end
theorem Two.new {w W : World} {g : Nat} {xs : List Value} (d : Dg w g W) (r : BoxL W w.heap.size xs) (ys : List Value) (t : TypeId) : Two w g W.heap.size xs ys (W.alloc (.cells ys.toArray t)) :=
  have hb := (Below.refl W.heap.size W).alloc (Nat.le_refl _) (.cells ys.toArray t)
  ⟨d.below hb, r.below hb, BoxL.new W ys t, r.lt⟩
set_option maxRecDepth 100000 in
set_option maxHeartbeats 3200000 in
theorem drawTree_less (d : Nat) (hlt : (d : Int) < 2) (g : Nat) (w : World) (hcur : Cur w g) : Calls Tryz.prog 68 #[.pointer (some ⟨g, 0, none⟩), .int .i64 (d : Int)] w (TreeDrawn (treeB d) g w) := by
  have hg0 := hcur.lt
  obtain ⟨W0, hW0⟩ : ∃ W, w.alloc (.cells #[.int .i64 0, .int .i64 0, .int .i64 0, .int .i64 0, .slice none 0 0] 27) = W := ⟨_, rfl⟩
  have R0 : BoxL W0 w.heap.size zeroCells := by
    rw [← hW0]
    exact BoxL.new w zeroCells _
  have D0 : Dg w g W0 := by
    rw [← hW0]
    exact (Dg.start hcur).below ((Below.refl w.heap.size w).alloc (Nat.le_refl _) _)
  have HW0 := Lib.hid hW0
  have hs1 : w.heap.size < W0.heap.size := R0.lt
  clear hW0 hcur
  go_enter Tryz.func68, Tryz.ntmps68
  go_wp2_with fail
  rw [HW0.out]
  refine (drawBelow g 7 _ (by omega) (by omega) D0.cur).mono ?_
  rintro e w1 ⟨k, hk, rfl, hc1, hw1⟩
  have D1 := D0.draw hc1 hw1
  have R1 := R0.turn (turn_drawn hw1) (.inr (by omega))
  clear hc1 hw1 D0 R0
  obtain ⟨kd, hkd⟩ : ∃ kd : Int, 1 + (k : Int) = kd := ⟨_, rfl⟩
  obtain ⟨W2, hW2⟩ : ∃ W, w1.alloc (.cells #[.int .i64 kd, .int .i64 0, .int .i64 0, .int .i64 0, .slice none 0 0] 27) = W := ⟨_, rfl⟩
  have T1 : Two w g w1.heap.size zeroCells [.int .i64 kd, .int .i64 0, .int .i64 0, .int .i64 0, .slice none 0 0] W2 := by
    rw [← hW2]
    exact Two.new D1 R1 _ _
  have HW2 := Lib.hid hW2
  have hbx : w1.heap.size < W2.heap.size := T1.x.lt
  have hsb : w.heap.size < w1.heap.size := T1.lt
  have HKD := Lib.hid hkd
  clear hW2 D1 R1 hkd
  go_wp2_with fail
  rw [HKD.out, HW2.out]
  refine (specUses _ _).mono ?_
  rintro e w3 ⟨rfl, rfl⟩
  have x0 := T1.x.c 0 _ rfl
  clear HW2
  generalize w1.heap.size = b at *
  rcases uses_kinds kd with ⟨hu, h2, h3⟩ | ⟨hu, h2⟩ | ⟨hu, h2⟩ | ⟨hu, h2, h3⟩ | ⟨hu, h2, h3⟩
  · rw [hu]
    have e2 : (kd == 2) = false := by simpa using h2
    have e3 : (kd == 3) = false := by simpa using h3
    clear h2 h3 hu
    have r0 := T1.r.c 0 _ rfl
    have r1 := T1.r.c 1 _ rfl
    have r2 := T1.r.c 2 _ rfl
    have r3 := T1.r.c 3 _ rfl
    have r4 := T1.r.c 4 _ rfl
    have rf := T1.r.f
    have q0 := T1.x.c 0 _ rfl
    have q1 := T1.x.c 1 _ rfl
    have q2 := T1.x.c 2 _ rfl
    have q3 := T1.x.c 3 _ rfl
    have q4 := T1.x.c 4 _ rfl
    have rl := T1.r.lt
    have E0 := ((((T1.res 0 (.int .i64 kd)).res 1 (.int .i64 0)).res 2 (.int .i64 0)).res 3 (.int .i64 0)).res 4 (.slice none 0 0)
    have HE := Lib.hid E0
    clear E0 T1
    go_wp2_with fail
    exact bodyPost_ret (v := Ft.val (.mk kd 0 0 0 none 0 [])) (by simp [results, Tryz.results68, go_sem, Ft.val, Ft.kd, Ft.k, Ft.u, Ft.v, Ft.a, Ft.cap, Ft.args, r0, r1, r2, r3, r4]) rfl ⟨.mk kd 0 0 0 none 0 [], rfl, by have := treeB_pos d; simp [Ft.er, Ft.ers, Fm.size, Fm.sizes]; omega, HE.out.d, Ft.mine_leaf _ _ _ _ HE.out.d.grown.size (Nat.le_refl _)⟩
  · rw [hu]
    subst h2
    clear hu
    have z1 := T1.x.f
    have l1 := T1.x.lt
    go_wp2_with fail
    refine (drawBelow g 2 _ (by omega) (by omega) T1.d.cur).mono ?_
    rintro e v1 ⟨u, hu, rfl, hc, hw⟩
    have U1 := T1.draw hc hw
    have x10 := U1.x.c 0 _ rfl
    have y1 := U1.x.c 2 _ rfl
    have g1 := U1.x.f
    have S1 := U1.put 2 (.int .i64 (u : Int))
    simp only [List.set] at S1
    have hw' := hw.size
    clear hc hw z1 l1
    clear T1 x0
    have z3 := S1.x.f
    have l3 := S1.x.lt
    go_wp2_with fail
    refine (drawBelow g 3 _ (by omega) (by omega) S1.d.cur).mono ?_
    rintro e v3 ⟨p, hp, rfl, hc, hw⟩
    have U3 := S1.draw hc hw
    have x30 := U3.x.c 0 _ rfl
    have y3 := U3.x.c 1 _ rfl
    have g3 := U3.x.f
    have S3 := U3.put 1 (.int .i64 (p : Int))
    simp only [List.set] at S3
    have hw' := hw.size
    clear hc hw z3 l3
    have r0 := S3.r.c 0 _ rfl
    have r1 := S3.r.c 1 _ rfl
    have r2 := S3.r.c 2 _ rfl
    have r3 := S3.r.c 3 _ rfl
    have r4 := S3.r.c 4 _ rfl
    have rf := S3.r.f
    have q0 := S3.x.c 0 _ rfl
    have q1 := S3.x.c 1 _ rfl
    have q2 := S3.x.c 2 _ rfl
    have q3 := S3.x.c 3 _ rfl
    have q4 := S3.x.c 4 _ rfl
    have rl := S3.r.lt
    have E0 := ((((S3.res 0 (.int .i64 2)).res 1 (.int .i64 (p : Int))).res 2 (.int .i64 (u : Int))).res 3 (.int .i64 0)).res 4 (.slice none 0 0)
    have HE := Lib.hid E0
    clear E0 S3
    go_wp2_with fail
    exact bodyPost_ret (v := Ft.val (.mk 2 (p : Int) (u : Int) 0 none 0 [])) (by simp [results, Tryz.results68, go_sem, Ft.val, Ft.kd, Ft.k, Ft.u, Ft.v, Ft.a, Ft.cap, Ft.args, r0, r1, r2, r3, r4]) rfl ⟨.mk 2 (p : Int) (u : Int) 0 none 0 [], rfl, by have := treeB_pos d; simp [Ft.er, Ft.ers, Fm.size, Fm.sizes]; omega, HE.out.d, Ft.mine_leaf _ _ _ _ HE.out.d.grown.size (Nat.le_refl _)⟩
  · rw [hu]
    subst h2
    clear hu
    have z1 := T1.x.f
    have l1 := T1.x.lt
    go_wp2_with fail
    refine (drawBelow g 2 _ (by omega) (by omega) T1.d.cur).mono ?_
    rintro e v1 ⟨u, hu, rfl, hc, hw⟩
    have U1 := T1.draw hc hw
    have x10 := U1.x.c 0 _ rfl
    have y1 := U1.x.c 2 _ rfl
    have g1 := U1.x.f
    have S1 := U1.put 2 (.int .i64 (u : Int))
    simp only [List.set] at S1
    have hw' := hw.size
    clear hc hw z1 l1
    clear T1 x0
    have z3 := S1.x.f
    have l3 := S1.x.lt
    go_wp2_with fail
    refine (drawBelow g 3 _ (by omega) (by omega) S1.d.cur).mono ?_
    rintro e v3 ⟨p, hp, rfl, hc, hw⟩
    have U3 := S1.draw hc hw
    have x30 := U3.x.c 0 _ rfl
    have y3 := U3.x.c 1 _ rfl
    have g3 := U3.x.f
    have S3 := U3.put 1 (.int .i64 (p : Int))
    simp only [List.set] at S3
    have hw' := hw.size
    clear hc hw z3 l3
    have r0 := S3.r.c 0 _ rfl
    have r1 := S3.r.c 1 _ rfl
    have r2 := S3.r.c 2 _ rfl
    have r3 := S3.r.c 3 _ rfl
    have r4 := S3.r.c 4 _ rfl
    have rf := S3.r.f
    have q0 := S3.x.c 0 _ rfl
    have q1 := S3.x.c 1 _ rfl
    have q2 := S3.x.c 2 _ rfl
    have q3 := S3.x.c 3 _ rfl
    have q4 := S3.x.c 4 _ rfl
    have rl := S3.r.lt
    have E0 := ((((S3.res 0 (.int .i64 3)).res 1 (.int .i64 (p : Int))).res 2 (.int .i64 (u : Int))).res 3 (.int .i64 0)).res 4 (.slice none 0 0)
    have HE := Lib.hid E0
    clear E0 S3
    go_wp2_with fail
    exact bodyPost_ret (v := Ft.val (.mk 3 (p : Int) (u : Int) 0 none 0 [])) (by simp [results, Tryz.results68, go_sem, Ft.val, Ft.kd, Ft.k, Ft.u, Ft.v, Ft.a, Ft.cap, Ft.args, r0, r1, r2, r3, r4]) rfl ⟨.mk 3 (p : Int) (u : Int) 0 none 0 [], rfl, by have := treeB_pos d; simp [Ft.er, Ft.ers, Fm.size, Fm.sizes]; omega, HE.out.d, Ft.mine_leaf _ _ _ _ HE.out.d.grown.size (Nat.le_refl _)⟩
  · rw [hu]
    have e2 : (kd == 2) = false := by simpa using h2
    have e3 : (kd == 3) = false := by simpa using h3
    clear h2 h3 hu
    have z1 := T1.x.f
    have l1 := T1.x.lt
    go_wp2_with fail
    refine (drawBelow g 2 _ (by omega) (by omega) T1.d.cur).mono ?_
    rintro e v1 ⟨u, hu, rfl, hc, hw⟩
    have U1 := T1.draw hc hw
    have x10 := U1.x.c 0 _ rfl
    have y1 := U1.x.c 2 _ rfl
    have g1 := U1.x.f
    have S1 := U1.put 2 (.int .i64 (u : Int))
    simp only [List.set] at S1
    have hw' := hw.size
    clear hc hw z1 l1
    clear T1 x0
    have r0 := S1.r.c 0 _ rfl
    have r1 := S1.r.c 1 _ rfl
    have r2 := S1.r.c 2 _ rfl
    have r3 := S1.r.c 3 _ rfl
    have r4 := S1.r.c 4 _ rfl
    have rf := S1.r.f
    have q0 := S1.x.c 0 _ rfl
    have q1 := S1.x.c 1 _ rfl
    have q2 := S1.x.c 2 _ rfl
    have q3 := S1.x.c 3 _ rfl
    have q4 := S1.x.c 4 _ rfl
    have rl := S1.r.lt
    have E0 := ((((S1.res 0 (.int .i64 kd)).res 1 (.int .i64 0)).res 2 (.int .i64 (u : Int))).res 3 (.int .i64 0)).res 4 (.slice none 0 0)
    have HE := Lib.hid E0
    clear E0 S1
    go_wp2_with fail
    exact bodyPost_ret (v := Ft.val (.mk kd 0 (u : Int) 0 none 0 [])) (by simp [results, Tryz.results68, go_sem, Ft.val, Ft.kd, Ft.k, Ft.u, Ft.v, Ft.a, Ft.cap, Ft.args, r0, r1, r2, r3, r4]) rfl ⟨.mk kd 0 (u : Int) 0 none 0 [], rfl, by have := treeB_pos d; simp [Ft.er, Ft.ers, Fm.size, Fm.sizes]; omega, HE.out.d, Ft.mine_leaf _ _ _ _ HE.out.d.grown.size (Nat.le_refl _)⟩
  · rw [hu]
    have e2 : (kd == 2) = false := by simpa using h2
    have e3 : (kd == 3) = false := by simpa using h3
    clear h2 h3 hu
    have z1 := T1.x.f
    have l1 := T1.x.lt
    go_wp2_with fail
    refine (drawBelow g 2 _ (by omega) (by omega) T1.d.cur).mono ?_
    rintro e v1 ⟨u, hu, rfl, hc, hw⟩
    have U1 := T1.draw hc hw
    have x10 := U1.x.c 0 _ rfl
    have y1 := U1.x.c 2 _ rfl
    have g1 := U1.x.f
    have S1 := U1.put 2 (.int .i64 (u : Int))
    simp only [List.set] at S1
    have hw' := hw.size
    clear hc hw z1 l1
    clear T1 x0
    have z2 := S1.x.f
    have l2 := S1.x.lt
    go_wp2_with fail
    refine (drawBelow g 3 _ (by omega) (by omega) S1.d.cur).mono ?_
    rintro e v2 ⟨v, hv, rfl, hc, hw⟩
    have U2 := S1.draw hc hw
    have x20 := U2.x.c 0 _ rfl
    have y2 := U2.x.c 3 _ rfl
    have g2 := U2.x.f
    have S2 := U2.put 3 (.int .i64 (v : Int))
    simp only [List.set] at S2
    have hw' := hw.size
    clear hc hw z2 l2
    have r0 := S2.r.c 0 _ rfl
    have r1 := S2.r.c 1 _ rfl
    have r2 := S2.r.c 2 _ rfl
    have r3 := S2.r.c 3 _ rfl
    have r4 := S2.r.c 4 _ rfl
    have rf := S2.r.f
    have q0 := S2.x.c 0 _ rfl
    have q1 := S2.x.c 1 _ rfl
    have q2 := S2.x.c 2 _ rfl
    have q3 := S2.x.c 3 _ rfl
    have q4 := S2.x.c 4 _ rfl
    have rl := S2.r.lt
    have E0 := ((((S2.res 0 (.int .i64 kd)).res 1 (.int .i64 0)).res 2 (.int .i64 (u : Int))).res 3 (.int .i64 (v : Int))).res 4 (.slice none 0 0)
    have HE := Lib.hid E0
    clear E0 S2
    go_wp2_with fail
    exact bodyPost_ret (v := Ft.val (.mk kd 0 (u : Int) (v : Int) none 0 [])) (by simp [results, Tryz.results68, go_sem, Ft.val, Ft.kd, Ft.k, Ft.u, Ft.v, Ft.a, Ft.cap, Ft.args, r0, r1, r2, r3, r4]) rfl ⟨.mk kd 0 (u : Int) (v : Int) none 0 [], rfl, by have := treeB_pos d; simp [Ft.er, Ft.ers, Fm.size, Fm.sizes]; omega, HE.out.d, Ft.mine_leaf _ _ _ _ HE.out.d.grown.size (Nat.le_refl _)⟩
theorem own_form5 {w : World} {base e size n : Nat} {v : Value} {xs : List Value} (h : w.ownsRow base e size v n xs) : ∃ a c, v = .slice a n c ∧ n ≤ c := by
  rcases h.2 with ⟨rfl, rfl⟩ | ⟨g, cap, cur, rfl, _, _, h1, _⟩
  · exact ⟨none, 0, rfl, Nat.le_refl _⟩
  · exact ⟨_, _, rfl, h1⟩
theorem cells_one (t : Ft) : ∀ u ∈ t.cells, u.oneCell' = true := fun u hu => fmVals_one [t] u (by simpa [fmVals] using hu)
theorem news_cells (w : World) (t : Ft) (e : TypeId) : ∀ j u, t.cells[j]? = some u → (w.alloc (.cells t.cells.toArray e)).cell? ((⟨w.heap.size, 0, none⟩ : Addr).add j) = some u := fun j u hu => by
  rw [add_plain, Nat.zero_add]
  exact (BoxL.new w t.cells e).c j u hu
theorem Ft.Mines.grown {w w' : World} {r : Option Nat} {ts : List Ft} {lo hi : Nat} (h : Ft.Mines w lo hi r ts) (hg : w.grownBy w' r) : Ft.Mines w' lo hi r ts := by
  cases r with
  | none => exact Ft.Mines.turn (Turn.of_grown (lo := 0) (hi := 0) hg (fun k hk => by cases hk)) ts h (.inl (Nat.zero_le _))
  | some b => exact Ft.Mines.stored (turn_drawn hg) ts h
theorem sizes_snoc {ts : List Ft} {t : Ft} {j N : Nat} (h : Fm.sizes (ts.map Ft.er) ≤ j * N) (ht : t.er.size ≤ N) : Fm.sizes ((ts ++ [t]).map Ft.er) ≤ (j + 1) * N := by
  rw [List.map_append, Fm.sizes_append, Nat.succ_mul]
  simp only [List.map_cons, List.map_nil, Fm.sizes]
  omega
set_option maxRecDepth 100000 in
set_option maxHeartbeats 3200000 in
theorem drawTree_more (d' : Nat) (hd1 : 1 ≤ d') (hd2 : d' ≤ 100) (ih : ∀ (g : Nat) (w : World), Cur w g → Calls Tryz.prog 68 #[.pointer (some ⟨g, 0, none⟩), .int .i64 (d' : Int)] w (TreeDrawn (treeB d') g w)) (g : Nat) (w : World) (hcur : Cur w g) : Calls Tryz.prog 68 #[.pointer (some ⟨g, 0, none⟩), .int .i64 ((d' + 1 : Nat) : Int)] w (TreeDrawn (treeB (d' + 1)) g w) := by
  obtain ⟨i0, hi, hz0, hz1, hz2⟩ := info_parts fmInfo
  have hg0 := hcur.lt
  obtain ⟨W0, hW0⟩ : ∃ W, w.alloc (.cells #[.int .i64 0, .int .i64 0, .int .i64 0, .int .i64 0, .slice none 0 0] 27) = W := ⟨_, rfl⟩
  have R0 : BoxL W0 w.heap.size zeroCells := by
    rw [← hW0]
    exact BoxL.new w zeroCells _
  have D0 : Dg w g W0 := by
    rw [← hW0]
    exact (Dg.start hcur).below ((Below.refl w.heap.size w).alloc (Nat.le_refl _) _)
  have HW0 := Lib.hid hW0
  have hs1 : w.heap.size < W0.heap.size := R0.lt
  have IH := Lib.hid ih
  obtain ⟨d, hdd⟩ : ∃ d, d' + 1 = d := ⟨_, rfl⟩
  rw [hdd]
  have hlt : ¬ (d : Int) < 2 := by omega
  have hdm : d ≤ 101 := by omega
  have hdl : (d : Int) - 1 = (d' : Int) := by omega
  have hwd : IntKind.i64.wrap (d' : Int) = (d' : Int) := by rw [IntKind.wrap_i64]; omega
  have HDD := Lib.hid hdd
  clear hW0 hcur ih hdd
  go_enter Tryz.func68, Tryz.ntmps68
  go_wp2_with fail
  rw [HW0.out]
  refine (drawOnce g 4 _ (by omega) (by omega) D0.cur).mono ?_
  rintro e w0 ⟨fl, rfl, hc0, hw0⟩
  have D := D0.draw hc0 hw0
  have R := R0.turn (turn_drawn hw0) (.inr (by omega))
  have hs2 : w.heap.size < w0.heap.size := R.lt
  clear D0 R0 hc0 hw0 HW0
  cases fl with
  | true =>
    clear IH
    go_wp2_with fail
    refine (drawBelow g 7 _ (by omega) (by omega) D.cur).mono ?_
    rintro e w1 ⟨k, hk, rfl, hc1, hw1⟩
    have D1 := D.draw hc1 hw1
    have R1 := R.turn (turn_drawn hw1) (.inr (by omega))
    clear hc1 hw1 D R
    obtain ⟨kd, hkd⟩ : ∃ kd : Int, 1 + (k : Int) = kd := ⟨_, rfl⟩
    obtain ⟨W2, hW2⟩ : ∃ W, w1.alloc (.cells #[.int .i64 kd, .int .i64 0, .int .i64 0, .int .i64 0, .slice none 0 0] 27) = W := ⟨_, rfl⟩
    have T1 : Two w g w1.heap.size zeroCells [.int .i64 kd, .int .i64 0, .int .i64 0, .int .i64 0, .slice none 0 0] W2 := by
      rw [← hW2]
      exact Two.new D1 R1 _ _
    have HW2 := Lib.hid hW2
    have hbx : w1.heap.size < W2.heap.size := T1.x.lt
    have hsb : w.heap.size < w1.heap.size := T1.lt
    have HKD := Lib.hid hkd
    clear hW2 D1 R1 hkd
    go_wp2_with fail
    rw [HKD.out, HW2.out]
    refine (specUses _ _).mono ?_
    rintro e w3 ⟨rfl, rfl⟩
    have x0 := T1.x.c 0 _ rfl
    clear HW2
    generalize w1.heap.size = b at *
    rcases uses_kinds kd with ⟨hu, h2, h3⟩ | ⟨hu, h2⟩ | ⟨hu, h2⟩ | ⟨hu, h2, h3⟩ | ⟨hu, h2, h3⟩
    · rw [hu]
      have e2 : (kd == 2) = false := by simpa using h2
      have e3 : (kd == 3) = false := by simpa using h3
      clear h2 h3 hu
      have r0 := T1.r.c 0 _ rfl
      have r1 := T1.r.c 1 _ rfl
      have r2 := T1.r.c 2 _ rfl
      have r3 := T1.r.c 3 _ rfl
      have r4 := T1.r.c 4 _ rfl
      have rf := T1.r.f
      have q0 := T1.x.c 0 _ rfl
      have q1 := T1.x.c 1 _ rfl
      have q2 := T1.x.c 2 _ rfl
      have q3 := T1.x.c 3 _ rfl
      have q4 := T1.x.c 4 _ rfl
      have rl := T1.r.lt
      have E0 := ((((T1.res 0 (.int .i64 kd)).res 1 (.int .i64 0)).res 2 (.int .i64 0)).res 3 (.int .i64 0)).res 4 (.slice none 0 0)
      have HE := Lib.hid E0
      clear E0 T1
      go_wp2_with fail
      exact bodyPost_ret (v := Ft.val (.mk kd 0 0 0 none 0 [])) (by simp [results, Tryz.results68, go_sem, Ft.val, Ft.kd, Ft.k, Ft.u, Ft.v, Ft.a, Ft.cap, Ft.args, r0, r1, r2, r3, r4]) rfl ⟨.mk kd 0 0 0 none 0 [], rfl, by have := treeB_pos d; simp [Ft.er, Ft.ers, Fm.size, Fm.sizes]; omega, HE.out.d, Ft.mine_leaf _ _ _ _ HE.out.d.grown.size (Nat.le_refl _)⟩
    · rw [hu]
      subst h2
      clear hu
      have z1 := T1.x.f
      have l1 := T1.x.lt
      go_wp2_with fail
      refine (drawBelow g 2 _ (by omega) (by omega) T1.d.cur).mono ?_
      rintro e v1 ⟨u, hu, rfl, hc, hw⟩
      have U1 := T1.draw hc hw
      have x10 := U1.x.c 0 _ rfl
      have y1 := U1.x.c 2 _ rfl
      have g1 := U1.x.f
      have S1 := U1.put 2 (.int .i64 (u : Int))
      simp only [List.set] at S1
      have hw' := hw.size
      clear hc hw z1 l1
      clear T1 x0
      have z3 := S1.x.f
      have l3 := S1.x.lt
      go_wp2_with fail
      refine (drawBelow g 3 _ (by omega) (by omega) S1.d.cur).mono ?_
      rintro e v3 ⟨p, hp, rfl, hc, hw⟩
      have U3 := S1.draw hc hw
      have x30 := U3.x.c 0 _ rfl
      have y3 := U3.x.c 1 _ rfl
      have g3 := U3.x.f
      have S3 := U3.put 1 (.int .i64 (p : Int))
      simp only [List.set] at S3
      have hw' := hw.size
      clear hc hw z3 l3
      have r0 := S3.r.c 0 _ rfl
      have r1 := S3.r.c 1 _ rfl
      have r2 := S3.r.c 2 _ rfl
      have r3 := S3.r.c 3 _ rfl
      have r4 := S3.r.c 4 _ rfl
      have rf := S3.r.f
      have q0 := S3.x.c 0 _ rfl
      have q1 := S3.x.c 1 _ rfl
      have q2 := S3.x.c 2 _ rfl
      have q3 := S3.x.c 3 _ rfl
      have q4 := S3.x.c 4 _ rfl
      have rl := S3.r.lt
      have E0 := ((((S3.res 0 (.int .i64 2)).res 1 (.int .i64 (p : Int))).res 2 (.int .i64 (u : Int))).res 3 (.int .i64 0)).res 4 (.slice none 0 0)
      have HE := Lib.hid E0
      clear E0 S3
      go_wp2_with fail
      exact bodyPost_ret (v := Ft.val (.mk 2 (p : Int) (u : Int) 0 none 0 [])) (by simp [results, Tryz.results68, go_sem, Ft.val, Ft.kd, Ft.k, Ft.u, Ft.v, Ft.a, Ft.cap, Ft.args, r0, r1, r2, r3, r4]) rfl ⟨.mk 2 (p : Int) (u : Int) 0 none 0 [], rfl, by have := treeB_pos d; simp [Ft.er, Ft.ers, Fm.size, Fm.sizes]; omega, HE.out.d, Ft.mine_leaf _ _ _ _ HE.out.d.grown.size (Nat.le_refl _)⟩
    · rw [hu]
      subst h2
      clear hu
      have z1 := T1.x.f
      have l1 := T1.x.lt
      go_wp2_with fail
      refine (drawBelow g 2 _ (by omega) (by omega) T1.d.cur).mono ?_
      rintro e v1 ⟨u, hu, rfl, hc, hw⟩
      have U1 := T1.draw hc hw
      have x10 := U1.x.c 0 _ rfl
      have y1 := U1.x.c 2 _ rfl
      have g1 := U1.x.f
      have S1 := U1.put 2 (.int .i64 (u : Int))
      simp only [List.set] at S1
      have hw' := hw.size
      clear hc hw z1 l1
      clear T1 x0
      have z3 := S1.x.f
      have l3 := S1.x.lt
      go_wp2_with fail
      refine (drawBelow g 3 _ (by omega) (by omega) S1.d.cur).mono ?_
      rintro e v3 ⟨p, hp, rfl, hc, hw⟩
      have U3 := S1.draw hc hw
      have x30 := U3.x.c 0 _ rfl
      have y3 := U3.x.c 1 _ rfl
      have g3 := U3.x.f
      have S3 := U3.put 1 (.int .i64 (p : Int))
      simp only [List.set] at S3
      have hw' := hw.size
      clear hc hw z3 l3
      have r0 := S3.r.c 0 _ rfl
      have r1 := S3.r.c 1 _ rfl
      have r2 := S3.r.c 2 _ rfl
      have r3 := S3.r.c 3 _ rfl
      have r4 := S3.r.c 4 _ rfl
      have rf := S3.r.f
      have q0 := S3.x.c 0 _ rfl
      have q1 := S3.x.c 1 _ rfl
      have q2 := S3.x.c 2 _ rfl
      have q3 := S3.x.c 3 _ rfl
      have q4 := S3.x.c 4 _ rfl
      have rl := S3.r.lt
      have E0 := ((((S3.res 0 (.int .i64 3)).res 1 (.int .i64 (p : Int))).res 2 (.int .i64 (u : Int))).res 3 (.int .i64 0)).res 4 (.slice none 0 0)
      have HE := Lib.hid E0
      clear E0 S3
      go_wp2_with fail
      exact bodyPost_ret (v := Ft.val (.mk 3 (p : Int) (u : Int) 0 none 0 [])) (by simp [results, Tryz.results68, go_sem, Ft.val, Ft.kd, Ft.k, Ft.u, Ft.v, Ft.a, Ft.cap, Ft.args, r0, r1, r2, r3, r4]) rfl ⟨.mk 3 (p : Int) (u : Int) 0 none 0 [], rfl, by have := treeB_pos d; simp [Ft.er, Ft.ers, Fm.size, Fm.sizes]; omega, HE.out.d, Ft.mine_leaf _ _ _ _ HE.out.d.grown.size (Nat.le_refl _)⟩
    · rw [hu]
      have e2 : (kd == 2) = false := by simpa using h2
      have e3 : (kd == 3) = false := by simpa using h3
      clear h2 h3 hu
      have z1 := T1.x.f
      have l1 := T1.x.lt
      go_wp2_with fail
      refine (drawBelow g 2 _ (by omega) (by omega) T1.d.cur).mono ?_
      rintro e v1 ⟨u, hu, rfl, hc, hw⟩
      have U1 := T1.draw hc hw
      have x10 := U1.x.c 0 _ rfl
      have y1 := U1.x.c 2 _ rfl
      have g1 := U1.x.f
      have S1 := U1.put 2 (.int .i64 (u : Int))
      simp only [List.set] at S1
      have hw' := hw.size
      clear hc hw z1 l1
      clear T1 x0
      have r0 := S1.r.c 0 _ rfl
      have r1 := S1.r.c 1 _ rfl
      have r2 := S1.r.c 2 _ rfl
      have r3 := S1.r.c 3 _ rfl
      have r4 := S1.r.c 4 _ rfl
      have rf := S1.r.f
      have q0 := S1.x.c 0 _ rfl
      have q1 := S1.x.c 1 _ rfl
      have q2 := S1.x.c 2 _ rfl
      have q3 := S1.x.c 3 _ rfl
      have q4 := S1.x.c 4 _ rfl
      have rl := S1.r.lt
      have E0 := ((((S1.res 0 (.int .i64 kd)).res 1 (.int .i64 0)).res 2 (.int .i64 (u : Int))).res 3 (.int .i64 0)).res 4 (.slice none 0 0)
      have HE := Lib.hid E0
      clear E0 S1
      go_wp2_with fail
      exact bodyPost_ret (v := Ft.val (.mk kd 0 (u : Int) 0 none 0 [])) (by simp [results, Tryz.results68, go_sem, Ft.val, Ft.kd, Ft.k, Ft.u, Ft.v, Ft.a, Ft.cap, Ft.args, r0, r1, r2, r3, r4]) rfl ⟨.mk kd 0 (u : Int) 0 none 0 [], rfl, by have := treeB_pos d; simp [Ft.er, Ft.ers, Fm.size, Fm.sizes]; omega, HE.out.d, Ft.mine_leaf _ _ _ _ HE.out.d.grown.size (Nat.le_refl _)⟩
    · rw [hu]
      have e2 : (kd == 2) = false := by simpa using h2
      have e3 : (kd == 3) = false := by simpa using h3
      clear h2 h3 hu
      have z1 := T1.x.f
      have l1 := T1.x.lt
      go_wp2_with fail
      refine (drawBelow g 2 _ (by omega) (by omega) T1.d.cur).mono ?_
      rintro e v1 ⟨u, hu, rfl, hc, hw⟩
      have U1 := T1.draw hc hw
      have x10 := U1.x.c 0 _ rfl
      have y1 := U1.x.c 2 _ rfl
      have g1 := U1.x.f
      have S1 := U1.put 2 (.int .i64 (u : Int))
      simp only [List.set] at S1
      have hw' := hw.size
      clear hc hw z1 l1
      clear T1 x0
      have z2 := S1.x.f
      have l2 := S1.x.lt
      go_wp2_with fail
      refine (drawBelow g 3 _ (by omega) (by omega) S1.d.cur).mono ?_
      rintro e v2 ⟨v, hv, rfl, hc, hw⟩
      have U2 := S1.draw hc hw
      have x20 := U2.x.c 0 _ rfl
      have y2 := U2.x.c 3 _ rfl
      have g2 := U2.x.f
      have S2 := U2.put 3 (.int .i64 (v : Int))
      simp only [List.set] at S2
      have hw' := hw.size
      clear hc hw z2 l2
      have r0 := S2.r.c 0 _ rfl
      have r1 := S2.r.c 1 _ rfl
      have r2 := S2.r.c 2 _ rfl
      have r3 := S2.r.c 3 _ rfl
      have r4 := S2.r.c 4 _ rfl
      have rf := S2.r.f
      have q0 := S2.x.c 0 _ rfl
      have q1 := S2.x.c 1 _ rfl
      have q2 := S2.x.c 2 _ rfl
      have q3 := S2.x.c 3 _ rfl
      have q4 := S2.x.c 4 _ rfl
      have rl := S2.r.lt
      have E0 := ((((S2.res 0 (.int .i64 kd)).res 1 (.int .i64 0)).res 2 (.int .i64 (u : Int))).res 3 (.int .i64 (v : Int))).res 4 (.slice none 0 0)
      have HE := Lib.hid E0
      clear E0 S2
      go_wp2_with fail
      exact bodyPost_ret (v := Ft.val (.mk kd 0 (u : Int) (v : Int) none 0 [])) (by simp [results, Tryz.results68, go_sem, Ft.val, Ft.kd, Ft.k, Ft.u, Ft.v, Ft.a, Ft.cap, Ft.args, r0, r1, r2, r3, r4]) rfl ⟨.mk kd 0 (u : Int) (v : Int) none 0 [], rfl, by have := treeB_pos d; simp [Ft.er, Ft.ers, Fm.size, Fm.sizes]; omega, HE.out.d, Ft.mine_leaf _ _ _ _ HE.out.d.grown.size (Nat.le_refl _)⟩
  | false =>
    go_wp2_with fail
    refine (drawBelow g 5 _ (by omega) (by omega) D.cur).mono ?_
    rintro e w1 ⟨k, hk, rfl, hc1, hw1⟩
    have D1 := D.draw hc1 hw1
    have R1 := R.turn (turn_drawn hw1) (.inr (by omega))
    clear hc1 hw1 D R
    obtain ⟨kd, hkd⟩ : ∃ kd : Int, 8 + (k : Int) = kd := ⟨_, rfl⟩
    obtain ⟨W2, hW2⟩ : ∃ W, w1.alloc (.cells #[.int .i64 kd, .int .i64 0, .int .i64 0, .int .i64 0, .slice none 0 0] 27) = W := ⟨_, rfl⟩
    have T1 : Two w g w1.heap.size zeroCells [.int .i64 kd, .int .i64 0, .int .i64 0, .int .i64 0, .slice none 0 0] W2 := by
      rw [← hW2]
      exact Two.new D1 R1 _ _
    have HW2 := Lib.hid hW2
    have hbx : w1.heap.size < W2.heap.size := T1.x.lt
    have hsb : w.heap.size < w1.heap.size := T1.lt
    have HKD := Lib.hid hkd
    have hmm : ∃ m : Nat, arityF kd = (m : Int) ∧ m ≤ 2 := by
      have : k = 0 ∨ k = 1 ∨ k = 2 ∨ k = 3 ∨ k = 4 := by omega
      rcases this with rfl | rfl | rfl | rfl | rfl <;> subst hkd
      · exact ⟨1, rfl, by omega⟩
      · exact ⟨2, rfl, by omega⟩
      · exact ⟨2, rfl, by omega⟩
      · exact ⟨1, rfl, by omega⟩
      · exact ⟨1, rfl, by omega⟩
    obtain ⟨m, hm, hm2⟩ := hmm
    have HM := Lib.hid hm
    have hk3 : k = 3 ∨ k = 4 ∨ (k ≠ 3 ∧ k ≠ 4) := by omega
    clear hW2 D1 R1 hkd hm
    rcases hk3 with h3 | h4 | ⟨h3, h4⟩
    · have e11 : ((8 : Int) + (k : Int) == 11) = true := by subst h3; rfl
      clear h3
      go_wp2_with fail
      rw [HKD.out, HW2.out]
      clear HW2
      generalize w1.heap.size = b at *
      refine (drawBelow g 3 _ (by omega) (by omega) T1.d.cur).mono ?_
      rintro e v1 ⟨u, hu, rfl, hc, hw⟩
      have U1 := T1.draw hc hw
      have y0 := U1.x.c 0 _ rfl
      have y1 := U1.x.c 2 _ rfl
      have g1 := U1.x.f
      have S1 := U1.put 2 (.int .i64 (u : Int))
      simp only [List.set] at S1
      have hw' := hw.size
      clear hc hw T1 e11
      go_wp2_with fail
      refine (specArityOf _ _).mono ?_
      rintro e w3 ⟨rfl, rfl⟩
      rw [HM.out]
      have hbs : b < (v1.setCell ⟨b, 2, none⟩ (.int .i64 (u : Int))).heap.size := S1.x.lt
      generalize v1.setCell ⟨b, 2, none⟩ (.int .i64 (u : Int)) = W3 at *
      clear y0 y1 g1 hw' hbx U1
      have ho0 := World.ownsRow_nil W3 (b + 1) 27 5
      go_wp2_with fail
      go_loopw [9] (fun i wr => ∃ (j : Nat) (v : Value) (ts : List Ft), j ≤ m ∧ i = .int .i64 j ∧ ts.length = j ∧ Two w g b zeroCells [.int .i64 kd, .int .i64 0, .int .i64 (u : Int), .int .i64 0, v] wr ∧ wr.ownsRow (b + 1) 27 5 v j (fmVals ts) ∧ Ft.Mines wr (b + 1) wr.heap.size v.ownBlock ts ∧ Fm.sizes (ts.map Ft.er) ≤ j * treeB d') (fun i _ => m - (intOf i).toNat)
      case atStart => exact ⟨0, .slice none 0 0, [], Nat.zero_le _, rfl, rfl, S1, ho0, by rw [Ft.Mines]; omega, by simp [Fm.sizes]⟩
      case round =>
        clear S1 ho0 hbs
        obtain ⟨j, v, ts, hj, rfl, hjl, T, hown, hmi, hsz⟩ := hrel
        obtain ⟨va, vc, rfl, hvc⟩ := own_form5 hown
        have HJL := Lib.hid hjl
        have HSZ := Lib.hid hsz
        by_cases hltj : j < m
        · have hbw := T.x.lt
          have TD := Lib.hid (T.below (Below.drew (Below.refl _ _)))
          have OD := Lib.hid (own_keeps hown (Below.drew (Below.refl _ _)))
          have MD := Lib.hid (hmi.below (Below.drew (Below.refl _ _)))
          have c4 := T.x.c 4 _ rfl
          have d4 := TD.out.x.c 4 _ rfl
          have f4 := T.x.f
          have e4 := TD.out.x.f
          have OW := Lib.hid hown
          clear hjl hsz T hown hmi hvc
          go_wp2_with fail
          go_region_law
            (first
              | (go_simp; go_at_call 68; (try rw [hdl]); (refine (IH.out g _ TD.out.d.cur).mono ?_); rintro e w4 ⟨t, rfl, hts, hdg, htm⟩; have T4 := TD.out.draw hdg.cur hdg.grown; have O4 := own_other OD.out hdg.grown (fun q hq e => by have := (OD.out.lt q hq).1; have := Option.some.inj e; omega); have M4 := Ft.Mines.turn (turn_drawn hdg.grown) ts MD.out (.inl (by omega)); have p4 := T4.x.c 4 _ rfl; have q4 := T4.x.f; have hw4 := hdg.grown.size; have hbw4 := T4.x.lt; simp at hw4)
              | (refine step_append_lies _ rfl (.tmp 69) (.tmp 74) 25 rfl (b + 1) 27 i0 _ 5 56 Tryz.underlying25 hi hz0 hz1 hz2 rfl (by decide) (.slice va j vc) j (fmVals ts) ?_ (O4.alloc _) ⟨w4.heap.size, 0, none⟩ 1 1 t.cells ?_ rfl ?_ ?_ (by omega) ?_ ?_ ?_ _ rfl ?_
                 · simp [Act.eval]
                 · simp [Act.eval]
                 · exact news_cells w4 t _
                 · exact cells_one t
                 · unfold maxLen; omega
                 · omega
                 · simp; omega
                 intro g9 cap9 w9 hown9 hg9 hat9 hlt9
                 have hal := (Below.refl w4.heap.size w4).alloc (Nat.le_refl _) (.cells t.cells.toArray 27)
                 have hz9 := hg9.size
                 have hrb : ∀ q, (Value.slice va j vc).ownBlock = some q → b + 1 ≤ q ∧ q < wr.heap.size := fun q hq => OW.out.lt q hq
                 have t9 : Turn (b + 1) wr.heap.size _ w9 := Turn.of_grown hg9 hrb
                 have T9 := (T4.below hal).turn t9 (Nat.lt_succ_self b)
                 have M9 := Ft.Mines.grown (M4.below hal) hg9
                 have X9 := Ft.Mine.turn t9 t (htm.below hal) (.inl (by simp))
                 have p9 := T9.x.c 4 _ rfl
                 have q9 := T9.x.f))
          all_goals
            simp at hz9
            have hg9' : ∀ q, (some g9 : Option Nat) = some q → (Value.slice va j vc).ownBlock = some q ∨ wr.heap.size ≤ q ∨ q < b + 1 := fun q hq => by
              have hq' := Option.some.inj hq
              subst hq'
              rcases hat9 with h | h
              · exact .inl h
              · simp at h
                exact .inr (.inl (by omega))
            have hg9'' : ∀ q, (some g9 : Option Nat) = some q → q < wr.heap.size ∨ w4.heap.size ≤ q := fun q hq => by
              have hq' := Option.some.inj hq
              subst hq'
              rcases hat9 with h | h
              · exact .inl (hrb g9 h).2
              · simp at h
                exact .inr (by omega)
            have M10 := Ft.Mines.snoc (by simp) X9 hg9'' (show w4.heap.size ≤ w9.heap.size by omega) ts (Ft.Mines.rebind ts M9 hg9')
            have ts9 := turn_set w9 b 4 (.slice (some ⟨g9, 0, none⟩) (j + 1) cap9)
            have M11 := Ft.Mines.turn ts9 (ts ++ [t]) M10 (.inl (Nat.le_refl _))
            have T11 := T9.put 4 (.slice (some ⟨g9, 0, none⟩) (j + 1) cap9)
            simp only [List.set] at T11
            have O11 := ownsRow_setCell_below hown9 (a := ⟨b, 4, none⟩) (Nat.lt_succ_self b) (.slice (some ⟨g9, 0, none⟩) (j + 1) cap9)
            have KEEP := Lib.hid (And.intro T11 (And.intro O11 M11))
            clear T11 O11 M11 M10 ts9 hg9'' hg9' T9 M9 X9 t9 hown9 hg9
            go_wp2_with fail
            go_roundw
            case rel => first | exact ⟨j + 1, _, ts ++ [t], by omega, by go_num, by simp [HJL.out], KEEP.out.1, by rw [fmVals_snoc]; exact KEEP.out.2.1, by have h := KEEP.out.2.2; simp at h ⊢; exact h, sizes_snoc HSZ.out hts⟩ | ((repeat apply Exists.intro); exact ⟨⟨j + 1, _, ts ++ [t], by omega, by go_num, by simp [HJL.out], KEEP.out.1, by rw [fmVals_snoc]; exact KEEP.out.2.1, by have h := KEEP.out.2.2; simp at h ⊢; exact h, sizes_snoc HSZ.out hts⟩, rfl⟩)
            case measure => simp [intOf]; omega
        · obtain rfl : j = m := by omega
          have q0 := T.x.c 0 _ rfl
          have q1 := T.x.c 1 _ rfl
          have q2 := T.x.c 2 _ rfl
          have q3 := T.x.c 3 _ rfl
          have q4 := T.x.c 4 _ rfl
          have r0 := T.r.c 0 _ rfl
          have r1 := T.r.c 1 _ rfl
          have r2 := T.r.c 2 _ rfl
          have r3 := T.r.c 3 _ rfl
          have r4 := T.r.c 4 _ rfl
          have rf := T.r.f
          have rl := T.r.lt
          have E0 := ((((T.res 0 (.int .i64 kd)).res 1 (.int .i64 0)).res 2 (.int .i64 (u : Int))).res 3 (.int .i64 0)).res 4 (.slice va j vc)
          have hTT := ((((turn_set wr w.heap.size 0 (.int .i64 kd)).trans (turn_set _ w.heap.size 1 (.int .i64 0))).trans (turn_set _ w.heap.size 2 (.int .i64 (u : Int)))).trans (turn_set _ w.heap.size 3 (.int .i64 0))).trans (turn_set _ w.heap.size 4 (.slice va j vc))
          have hM := Ft.Mines.turn hTT ts hmi (.inl (by omega))
          have hO := (OwnIn.of hown).turn hTT (.inr (by omega))
          have HE := Lib.hid (And.intro E0 (And.intro hM hO))
          have hbw := T.x.lt
          clear E0 T hTT hM hO hown hmi hjl hsz hltj
          go_wp2_with fail
          refine bodyPost_ret (v := .agg #[.int .i64 kd, .int .i64 0, .int .i64 (u : Int), .int .i64 0, .slice va j vc]) (by simp [results, Tryz.results68, go_sem, r0, r1, r2, r3, r4]) rfl ⟨.mk kd 0 (u : Int) 0 va vc ts, by simp [Ft.val, Ft.kd, Ft.k, Ft.u, Ft.v, Ft.a, Ft.cap, Ft.args, HJL.out], ?_, HE.out.1.d, ?_⟩
          · have h1 := HSZ.out
            have h2 : j * treeB d' ≤ 2 * treeB d' := Nat.mul_le_mul_right _ hm2
            rw [← HDD.out]
            simp only [Ft.er, Fm.size, Ft.ers_map, treeB]
            omega
          · rw [Ft.Mine, HJL.out]
            simp only [World.size_setCell]
            exact ⟨HE.out.2.2.mono (by omega) (Nat.le_refl _) (by simp), Ft.Mines.grow ts HE.out.2.1 (by omega) (Nat.le_refl _)⟩
    · have e11 : ((8 : Int) + (k : Int) == 11) = false := by subst h4; rfl
      have e12 : ((8 : Int) + (k : Int) == 12) = true := by subst h4; rfl
      clear h4
      go_wp2_with fail
      rw [HKD.out, HW2.out]
      clear HW2
      generalize w1.heap.size = b at *
      refine (drawBelow g 3 _ (by omega) (by omega) T1.d.cur).mono ?_
      rintro e v1 ⟨u, hu, rfl, hc, hw⟩
      have U1 := T1.draw hc hw
      have y0 := U1.x.c 0 _ rfl
      have y1 := U1.x.c 2 _ rfl
      have g1 := U1.x.f
      have S1 := U1.put 2 (.int .i64 (u : Int))
      simp only [List.set] at S1
      have hw' := hw.size
      clear hc hw T1 e11
      clear e12
      go_wp2_with fail
      refine (specArityOf _ _).mono ?_
      rintro e w3 ⟨rfl, rfl⟩
      rw [HM.out]
      have hbs : b < (v1.setCell ⟨b, 2, none⟩ (.int .i64 (u : Int))).heap.size := S1.x.lt
      generalize v1.setCell ⟨b, 2, none⟩ (.int .i64 (u : Int)) = W3 at *
      clear y0 y1 g1 hw' hbx U1
      have ho0 := World.ownsRow_nil W3 (b + 1) 27 5
      go_wp2_with fail
      go_loopw [9] (fun i wr => ∃ (j : Nat) (v : Value) (ts : List Ft), j ≤ m ∧ i = .int .i64 j ∧ ts.length = j ∧ Two w g b zeroCells [.int .i64 kd, .int .i64 0, .int .i64 (u : Int), .int .i64 0, v] wr ∧ wr.ownsRow (b + 1) 27 5 v j (fmVals ts) ∧ Ft.Mines wr (b + 1) wr.heap.size v.ownBlock ts ∧ Fm.sizes (ts.map Ft.er) ≤ j * treeB d') (fun i _ => m - (intOf i).toNat)
      case atStart => exact ⟨0, .slice none 0 0, [], Nat.zero_le _, rfl, rfl, S1, ho0, by rw [Ft.Mines]; omega, by simp [Fm.sizes]⟩
      case round =>
        clear S1 ho0 hbs
        obtain ⟨j, v, ts, hj, rfl, hjl, T, hown, hmi, hsz⟩ := hrel
        obtain ⟨va, vc, rfl, hvc⟩ := own_form5 hown
        have HJL := Lib.hid hjl
        have HSZ := Lib.hid hsz
        by_cases hltj : j < m
        · have hbw := T.x.lt
          have TD := Lib.hid (T.below (Below.drew (Below.refl _ _)))
          have OD := Lib.hid (own_keeps hown (Below.drew (Below.refl _ _)))
          have MD := Lib.hid (hmi.below (Below.drew (Below.refl _ _)))
          have c4 := T.x.c 4 _ rfl
          have d4 := TD.out.x.c 4 _ rfl
          have f4 := T.x.f
          have e4 := TD.out.x.f
          have OW := Lib.hid hown
          clear hjl hsz T hown hmi hvc
          go_wp2_with fail
          go_region_law
            (first
              | (go_simp; go_at_call 68; (try rw [hdl]); (refine (IH.out g _ TD.out.d.cur).mono ?_); rintro e w4 ⟨t, rfl, hts, hdg, htm⟩; have T4 := TD.out.draw hdg.cur hdg.grown; have O4 := own_other OD.out hdg.grown (fun q hq e => by have := (OD.out.lt q hq).1; have := Option.some.inj e; omega); have M4 := Ft.Mines.turn (turn_drawn hdg.grown) ts MD.out (.inl (by omega)); have p4 := T4.x.c 4 _ rfl; have q4 := T4.x.f; have hw4 := hdg.grown.size; have hbw4 := T4.x.lt; simp at hw4)
              | (refine step_append_lies _ rfl (.tmp 69) (.tmp 74) 25 rfl (b + 1) 27 i0 _ 5 56 Tryz.underlying25 hi hz0 hz1 hz2 rfl (by decide) (.slice va j vc) j (fmVals ts) ?_ (O4.alloc _) ⟨w4.heap.size, 0, none⟩ 1 1 t.cells ?_ rfl ?_ ?_ (by omega) ?_ ?_ ?_ _ rfl ?_
                 · simp [Act.eval]
                 · simp [Act.eval]
                 · exact news_cells w4 t _
                 · exact cells_one t
                 · unfold maxLen; omega
                 · omega
                 · simp; omega
                 intro g9 cap9 w9 hown9 hg9 hat9 hlt9
                 have hal := (Below.refl w4.heap.size w4).alloc (Nat.le_refl _) (.cells t.cells.toArray 27)
                 have hz9 := hg9.size
                 have hrb : ∀ q, (Value.slice va j vc).ownBlock = some q → b + 1 ≤ q ∧ q < wr.heap.size := fun q hq => OW.out.lt q hq
                 have t9 : Turn (b + 1) wr.heap.size _ w9 := Turn.of_grown hg9 hrb
                 have T9 := (T4.below hal).turn t9 (Nat.lt_succ_self b)
                 have M9 := Ft.Mines.grown (M4.below hal) hg9
                 have X9 := Ft.Mine.turn t9 t (htm.below hal) (.inl (by simp))
                 have p9 := T9.x.c 4 _ rfl
                 have q9 := T9.x.f))
          all_goals
            simp at hz9
            have hg9' : ∀ q, (some g9 : Option Nat) = some q → (Value.slice va j vc).ownBlock = some q ∨ wr.heap.size ≤ q ∨ q < b + 1 := fun q hq => by
              have hq' := Option.some.inj hq
              subst hq'
              rcases hat9 with h | h
              · exact .inl h
              · simp at h
                exact .inr (.inl (by omega))
            have hg9'' : ∀ q, (some g9 : Option Nat) = some q → q < wr.heap.size ∨ w4.heap.size ≤ q := fun q hq => by
              have hq' := Option.some.inj hq
              subst hq'
              rcases hat9 with h | h
              · exact .inl (hrb g9 h).2
              · simp at h
                exact .inr (by omega)
            have M10 := Ft.Mines.snoc (by simp) X9 hg9'' (show w4.heap.size ≤ w9.heap.size by omega) ts (Ft.Mines.rebind ts M9 hg9')
            have ts9 := turn_set w9 b 4 (.slice (some ⟨g9, 0, none⟩) (j + 1) cap9)
            have M11 := Ft.Mines.turn ts9 (ts ++ [t]) M10 (.inl (Nat.le_refl _))
            have T11 := T9.put 4 (.slice (some ⟨g9, 0, none⟩) (j + 1) cap9)
            simp only [List.set] at T11
            have O11 := ownsRow_setCell_below hown9 (a := ⟨b, 4, none⟩) (Nat.lt_succ_self b) (.slice (some ⟨g9, 0, none⟩) (j + 1) cap9)
            have KEEP := Lib.hid (And.intro T11 (And.intro O11 M11))
            clear T11 O11 M11 M10 ts9 hg9'' hg9' T9 M9 X9 t9 hown9 hg9
            go_wp2_with fail
            go_roundw
            case rel => first | exact ⟨j + 1, _, ts ++ [t], by omega, by go_num, by simp [HJL.out], KEEP.out.1, by rw [fmVals_snoc]; exact KEEP.out.2.1, by have h := KEEP.out.2.2; simp at h ⊢; exact h, sizes_snoc HSZ.out hts⟩ | ((repeat apply Exists.intro); exact ⟨⟨j + 1, _, ts ++ [t], by omega, by go_num, by simp [HJL.out], KEEP.out.1, by rw [fmVals_snoc]; exact KEEP.out.2.1, by have h := KEEP.out.2.2; simp at h ⊢; exact h, sizes_snoc HSZ.out hts⟩, rfl⟩)
            case measure => simp [intOf]; omega
        · obtain rfl : j = m := by omega
          have q0 := T.x.c 0 _ rfl
          have q1 := T.x.c 1 _ rfl
          have q2 := T.x.c 2 _ rfl
          have q3 := T.x.c 3 _ rfl
          have q4 := T.x.c 4 _ rfl
          have r0 := T.r.c 0 _ rfl
          have r1 := T.r.c 1 _ rfl
          have r2 := T.r.c 2 _ rfl
          have r3 := T.r.c 3 _ rfl
          have r4 := T.r.c 4 _ rfl
          have rf := T.r.f
          have rl := T.r.lt
          have E0 := ((((T.res 0 (.int .i64 kd)).res 1 (.int .i64 0)).res 2 (.int .i64 (u : Int))).res 3 (.int .i64 0)).res 4 (.slice va j vc)
          have hTT := ((((turn_set wr w.heap.size 0 (.int .i64 kd)).trans (turn_set _ w.heap.size 1 (.int .i64 0))).trans (turn_set _ w.heap.size 2 (.int .i64 (u : Int)))).trans (turn_set _ w.heap.size 3 (.int .i64 0))).trans (turn_set _ w.heap.size 4 (.slice va j vc))
          have hM := Ft.Mines.turn hTT ts hmi (.inl (by omega))
          have hO := (OwnIn.of hown).turn hTT (.inr (by omega))
          have HE := Lib.hid (And.intro E0 (And.intro hM hO))
          have hbw := T.x.lt
          clear E0 T hTT hM hO hown hmi hjl hsz hltj
          go_wp2_with fail
          refine bodyPost_ret (v := .agg #[.int .i64 kd, .int .i64 0, .int .i64 (u : Int), .int .i64 0, .slice va j vc]) (by simp [results, Tryz.results68, go_sem, r0, r1, r2, r3, r4]) rfl ⟨.mk kd 0 (u : Int) 0 va vc ts, by simp [Ft.val, Ft.kd, Ft.k, Ft.u, Ft.v, Ft.a, Ft.cap, Ft.args, HJL.out], ?_, HE.out.1.d, ?_⟩
          · have h1 := HSZ.out
            have h2 : j * treeB d' ≤ 2 * treeB d' := Nat.mul_le_mul_right _ hm2
            rw [← HDD.out]
            simp only [Ft.er, Fm.size, Ft.ers_map, treeB]
            omega
          · rw [Ft.Mine, HJL.out]
            simp only [World.size_setCell]
            exact ⟨HE.out.2.2.mono (by omega) (Nat.le_refl _) (by simp), Ft.Mines.grow ts HE.out.2.1 (by omega) (Nat.le_refl _)⟩
    · have e11 : ((8 : Int) + (k : Int) == 11) = false := by simp; omega
      have e12 : ((8 : Int) + (k : Int) == 12) = false := by simp; omega
      clear h3 h4
      go_wp2_with fail
      rw [HKD.out, HW2.out]
      clear HW2
      generalize w1.heap.size = b at *
      refine (specArityOf _ _).mono ?_
      rintro e w3 ⟨rfl, rfl⟩
      rw [HM.out]
      have hbs := hbx
      clear e11 e12 hbx
      have ho0 := World.ownsRow_nil w3 (b + 1) 27 5
      go_wp2_with fail
      go_loopw [9] (fun i wr => ∃ (j : Nat) (v : Value) (ts : List Ft), j ≤ m ∧ i = .int .i64 j ∧ ts.length = j ∧ Two w g b zeroCells [.int .i64 kd, .int .i64 0, .int .i64 0, .int .i64 0, v] wr ∧ wr.ownsRow (b + 1) 27 5 v j (fmVals ts) ∧ Ft.Mines wr (b + 1) wr.heap.size v.ownBlock ts ∧ Fm.sizes (ts.map Ft.er) ≤ j * treeB d') (fun i _ => m - (intOf i).toNat)
      case atStart => exact ⟨0, .slice none 0 0, [], Nat.zero_le _, rfl, rfl, T1, ho0, by rw [Ft.Mines]; omega, by simp [Fm.sizes]⟩
      case round =>
        clear T1 ho0 hbs
        obtain ⟨j, v, ts, hj, rfl, hjl, T, hown, hmi, hsz⟩ := hrel
        obtain ⟨va, vc, rfl, hvc⟩ := own_form5 hown
        have HJL := Lib.hid hjl
        have HSZ := Lib.hid hsz
        by_cases hltj : j < m
        · have hbw := T.x.lt
          have TD := Lib.hid (T.below (Below.drew (Below.refl _ _)))
          have OD := Lib.hid (own_keeps hown (Below.drew (Below.refl _ _)))
          have MD := Lib.hid (hmi.below (Below.drew (Below.refl _ _)))
          have c4 := T.x.c 4 _ rfl
          have d4 := TD.out.x.c 4 _ rfl
          have f4 := T.x.f
          have e4 := TD.out.x.f
          have OW := Lib.hid hown
          clear hjl hsz T hown hmi hvc
          go_wp2_with fail
          go_region_law
            (first
              | (go_simp; go_at_call 68; (try rw [hdl]); (refine (IH.out g _ TD.out.d.cur).mono ?_); rintro e w4 ⟨t, rfl, hts, hdg, htm⟩; have T4 := TD.out.draw hdg.cur hdg.grown; have O4 := own_other OD.out hdg.grown (fun q hq e => by have := (OD.out.lt q hq).1; have := Option.some.inj e; omega); have M4 := Ft.Mines.turn (turn_drawn hdg.grown) ts MD.out (.inl (by omega)); have p4 := T4.x.c 4 _ rfl; have q4 := T4.x.f; have hw4 := hdg.grown.size; have hbw4 := T4.x.lt; simp at hw4)
              | (refine step_append_lies _ rfl (.tmp 69) (.tmp 74) 25 rfl (b + 1) 27 i0 _ 5 56 Tryz.underlying25 hi hz0 hz1 hz2 rfl (by decide) (.slice va j vc) j (fmVals ts) ?_ (O4.alloc _) ⟨w4.heap.size, 0, none⟩ 1 1 t.cells ?_ rfl ?_ ?_ (by omega) ?_ ?_ ?_ _ rfl ?_
                 · simp [Act.eval]
                 · simp [Act.eval]
                 · exact news_cells w4 t _
                 · exact cells_one t
                 · unfold maxLen; omega
                 · omega
                 · simp; omega
                 intro g9 cap9 w9 hown9 hg9 hat9 hlt9
                 have hal := (Below.refl w4.heap.size w4).alloc (Nat.le_refl _) (.cells t.cells.toArray 27)
                 have hz9 := hg9.size
                 have hrb : ∀ q, (Value.slice va j vc).ownBlock = some q → b + 1 ≤ q ∧ q < wr.heap.size := fun q hq => OW.out.lt q hq
                 have t9 : Turn (b + 1) wr.heap.size _ w9 := Turn.of_grown hg9 hrb
                 have T9 := (T4.below hal).turn t9 (Nat.lt_succ_self b)
                 have M9 := Ft.Mines.grown (M4.below hal) hg9
                 have X9 := Ft.Mine.turn t9 t (htm.below hal) (.inl (by simp))
                 have p9 := T9.x.c 4 _ rfl
                 have q9 := T9.x.f))
          all_goals
            simp at hz9
            have hg9' : ∀ q, (some g9 : Option Nat) = some q → (Value.slice va j vc).ownBlock = some q ∨ wr.heap.size ≤ q ∨ q < b + 1 := fun q hq => by
              have hq' := Option.some.inj hq
              subst hq'
              rcases hat9 with h | h
              · exact .inl h
              · simp at h
                exact .inr (.inl (by omega))
            have hg9'' : ∀ q, (some g9 : Option Nat) = some q → q < wr.heap.size ∨ w4.heap.size ≤ q := fun q hq => by
              have hq' := Option.some.inj hq
              subst hq'
              rcases hat9 with h | h
              · exact .inl (hrb g9 h).2
              · simp at h
                exact .inr (by omega)
            have M10 := Ft.Mines.snoc (by simp) X9 hg9'' (show w4.heap.size ≤ w9.heap.size by omega) ts (Ft.Mines.rebind ts M9 hg9')
            have ts9 := turn_set w9 b 4 (.slice (some ⟨g9, 0, none⟩) (j + 1) cap9)
            have M11 := Ft.Mines.turn ts9 (ts ++ [t]) M10 (.inl (Nat.le_refl _))
            have T11 := T9.put 4 (.slice (some ⟨g9, 0, none⟩) (j + 1) cap9)
            simp only [List.set] at T11
            have O11 := ownsRow_setCell_below hown9 (a := ⟨b, 4, none⟩) (Nat.lt_succ_self b) (.slice (some ⟨g9, 0, none⟩) (j + 1) cap9)
            have KEEP := Lib.hid (And.intro T11 (And.intro O11 M11))
            clear T11 O11 M11 M10 ts9 hg9'' hg9' T9 M9 X9 t9 hown9 hg9
            go_wp2_with fail
            go_roundw
            case rel => first | exact ⟨j + 1, _, ts ++ [t], by omega, by go_num, by simp [HJL.out], KEEP.out.1, by rw [fmVals_snoc]; exact KEEP.out.2.1, by have h := KEEP.out.2.2; simp at h ⊢; exact h, sizes_snoc HSZ.out hts⟩ | ((repeat apply Exists.intro); exact ⟨⟨j + 1, _, ts ++ [t], by omega, by go_num, by simp [HJL.out], KEEP.out.1, by rw [fmVals_snoc]; exact KEEP.out.2.1, by have h := KEEP.out.2.2; simp at h ⊢; exact h, sizes_snoc HSZ.out hts⟩, rfl⟩)
            case measure => simp [intOf]; omega
        · obtain rfl : j = m := by omega
          have q0 := T.x.c 0 _ rfl
          have q1 := T.x.c 1 _ rfl
          have q2 := T.x.c 2 _ rfl
          have q3 := T.x.c 3 _ rfl
          have q4 := T.x.c 4 _ rfl
          have r0 := T.r.c 0 _ rfl
          have r1 := T.r.c 1 _ rfl
          have r2 := T.r.c 2 _ rfl
          have r3 := T.r.c 3 _ rfl
          have r4 := T.r.c 4 _ rfl
          have rf := T.r.f
          have rl := T.r.lt
          have E0 := ((((T.res 0 (.int .i64 kd)).res 1 (.int .i64 0)).res 2 (.int .i64 0)).res 3 (.int .i64 0)).res 4 (.slice va j vc)
          have hTT := ((((turn_set wr w.heap.size 0 (.int .i64 kd)).trans (turn_set _ w.heap.size 1 (.int .i64 0))).trans (turn_set _ w.heap.size 2 (.int .i64 0))).trans (turn_set _ w.heap.size 3 (.int .i64 0))).trans (turn_set _ w.heap.size 4 (.slice va j vc))
          have hM := Ft.Mines.turn hTT ts hmi (.inl (by omega))
          have hO := (OwnIn.of hown).turn hTT (.inr (by omega))
          have HE := Lib.hid (And.intro E0 (And.intro hM hO))
          have hbw := T.x.lt
          clear E0 T hTT hM hO hown hmi hjl hsz hltj
          go_wp2_with fail
          refine bodyPost_ret (v := .agg #[.int .i64 kd, .int .i64 0, .int .i64 0, .int .i64 0, .slice va j vc]) (by simp [results, Tryz.results68, go_sem, r0, r1, r2, r3, r4]) rfl ⟨.mk kd 0 0 0 va vc ts, by simp [Ft.val, Ft.kd, Ft.k, Ft.u, Ft.v, Ft.a, Ft.cap, Ft.args, HJL.out], ?_, HE.out.1.d, ?_⟩
          · have h1 := HSZ.out
            have h2 : j * treeB d' ≤ 2 * treeB d' := Nat.mul_le_mul_right _ hm2
            rw [← HDD.out]
            simp only [Ft.er, Fm.size, Ft.ers_map, treeB]
            omega
          · rw [Ft.Mine, HJL.out]
            simp only [World.size_setCell]
            exact ⟨HE.out.2.2.mono (by omega) (Nat.le_refl _) (by simp), Ft.Mines.grow ts HE.out.2.1 (by omega) (Nat.le_refl _)⟩
end Go.Proofs.YtplchhahjmoodaaGreatDoor
/-
  The model's copy of a formula.
-/
namespace Go.Proofs.YtplchhahjmoodaaGreatDoor
open Go Go.RowKit Go.ChangeAt Go.ChangeShapes Go.WideShapes

def CopyMine (x : Ft) (w : World) (e : Ending) (w' : World) : Prop :=
  ∃ y : Ft, e = .returned y.val ∧ y.er = x.er ∧ y.Mine w' w.heap.size w'.heap.size ∧ Below w.heap.size w w'
/-- The argument's box, the result's, the copy's. -/
structure Tri (w : World) (x : Ft) (ys zs : List Value) (W : World) : Prop where
  b : Below w.heap.size w W
  p : BoxL W w.heap.size x.cells
  r : BoxL W (w.heap.size + 1) ys
  c : BoxL W (w.heap.size + 2) zs
section
variable {w W W' : World} {x : Ft} {ys zs : List Value}
theorem Tri.below (h : Tri w x ys zs W) (hb : Below W.heap.size W W') : Tri w x ys zs W' := ⟨h.b.trans (hb.mono h.b.size), h.p.below hb, h.r.below hb, h.c.below hb⟩
theorem Tri.turn (h : Tri w x ys zs W) {lo hi : Nat} (t : Turn lo hi W W') (hl : w.heap.size + 2 < lo) : Tri w x ys zs W' :=
  ⟨Turn.below h.b t (by omega) h.b.size, h.p.turn t (.inl (by omega)), h.r.turn t (.inl (by omega)), h.c.turn t (.inl (by omega))⟩
theorem Tri.put (h : Tri w x ys zs W) (i : Nat) (u : Value) : Tri w x ys (zs.set i u) (W.setCell ⟨w.heap.size + 2, i, none⟩ u) :=
  have t := turn_set W (w.heap.size + 2) i u
  ⟨Turn.below h.b t (by omega) h.b.size, h.p.turn t (.inl (by omega)), h.r.turn t (.inl (by omega)), h.c.set i u⟩
theorem Tri.res (h : Tri w x ys zs W) (i : Nat) (u : Value) : Tri w x (ys.set i u) zs (W.setCell ⟨w.heap.size + 1, i, none⟩ u) :=
  have t := turn_set W (w.heap.size + 1) i u
  ⟨Turn.below h.b t (by omega) h.b.size, h.p.turn t (.inl (by omega)), h.r.set i u, h.c.turn t (.inr (by omega))⟩
end

end Go.Proofs.YtplchhahjmoodaaGreatDoor
/-
  A formula, drawn and bent; and its copy. (Printed by wip/tools/gen_draw_bent_tree.py.)
-/
namespace Go.Proofs.YtplchhahjmoodaaGreatDoor
open Go Go.RowKit Go.ChangeAt Go.ChangeShapes Go.WideShapes

theorem drawTree : ∀ d : Nat, d ≤ 100 → ∀ (g : Nat) (w : World), Cur w g → Calls Tryz.prog 68 #[.pointer (some ⟨g, 0, none⟩), .int .i64 (d : Int)] w (TreeDrawn (treeB d) g w)
  | 0, _, g, w, h => drawTree_less 0 (by decide) g w h
  | 1, _, g, w, h => drawTree_less 1 (by decide) g w h
  | d + 2, hd, g, w, h => drawTree_more (d + 1) (by omega) (by omega) (fun g w h => drawTree (d + 1) (by omega) g w h) g w h
theorem Ft.mine_head {w : World} {lo hi : Nat} {t : Ft} (h : t.Mine w lo hi) (kd k u v : Int) : (Ft.mk kd k u v t.a t.cap t.args).Mine w lo hi := by
  rw [Ft.Mine]
  exact (Ft.mine_iff t).1 h
theorem Ft.size_head (t : Ft) (kd k u v : Int) : (Ft.mk kd k u v t.a t.cap t.args).er.size = t.er.size := by
  rw [Ft.size_er, Ft.size_er t]
  rfl
theorem beside_ints (w : World) {g : Nat} (ns : List Int) (t : TypeId) (hg : g < w.heap.size) : Beside (w.alloc (.cells (intVals ns).toArray t)) g (some ⟨w.heap.size, 0, none⟩) (intVals ns) := beside_new _ hg
def leafT : Ft := .mk 1 0 0 0 none 0 []
theorem Two.turnB {w W W' : World} {g b : Nat} {xs ys : List Value} (h : Two w g b xs ys W) {lo hi : Nat} (t : Turn lo hi W W') (hl : w.heap.size < lo) (hh : hi ≤ b) : Two w g b xs ys W' :=
  ⟨h.d.turn t (by omega), h.r.turn t (.inl hl), h.x.turn t (.inr hh), h.lt⟩
theorem mine_snoc {w' : World} {lo m n g9 cap9 : Nat} {r : Option Nat} {args : List Ft} (hn : args.length = n) (hk : Ft.Mines w' lo m r args) (hr : r = some g9 ∨ m ≤ g9) (hown : w'.ownsRow lo 27 5 (.slice (some ⟨g9, 0, none⟩) (n + 1) cap9) (n + 1) (fmVals args ++ leafT.cells)) (hm : m ≤ w'.heap.size) (kd k u v : Int) :
    (Ft.mk kd k u v (some ⟨g9, 0, none⟩) cap9 (args ++ [leafT])).Mine w' lo w'.heap.size := by
  subst hn
  rw [Ft.Mine]
  have hl : (args ++ [leafT]).length = args.length + 1 := by simp
  rw [hl, fmVals_snoc]
  refine ⟨OwnIn.of hown, ?_⟩
  have h4 : Ft.Mines w' lo m (some g9) args := Ft.Mines.rebind _ hk fun q hq => by
    cases hq
    rcases hr with h | h
    · exact .inl h
    · exact .inr (.inl h)
  have hlt := (hown.lt g9 rfl).2
  refine Ft.Mines.snoc (m1 := w'.heap.size) (m2 := w'.heap.size) hm (Ft.mine_leaf 1 0 0 0 (Nat.le_refl _) (Nat.le_refl _)) (fun q hq => ?_) (Nat.le_refl _) _ h4
  cases hq
  exact .inl hlt
set_option maxRecDepth 100000 in
set_option maxHeartbeats 3200000 in
theorem drawBentTree (g : Nat) (w : World) (hcur : Cur w g) : Calls Tryz.prog 29 #[.pointer (some ⟨g, 0, none⟩)] w (TreeDrawn 32 g w) := by
  obtain ⟨i0, hi, hz0, hz1, hz2⟩ := info_parts fmInfo
  have hg0 := hcur.lt
  obtain ⟨W0, hW0⟩ : ∃ W, w.alloc (.cells #[.int .i64 0, .int .i64 0, .int .i64 0, .int .i64 0, .slice none 0 0] 27) = W := ⟨_, rfl⟩
  have R0 : BoxL W0 w.heap.size zeroCells := by
    rw [← hW0]
    exact BoxL.new w zeroCells _
  have D0 : Dg w g W0 := by
    rw [← hW0]
    exact (Dg.start hcur).below ((Below.refl w.heap.size w).alloc (Nat.le_refl _) _)
  have hs0 : W0.heap.size = w.heap.size + 1 := by rw [← hW0]; simp
  have HW0 := Lib.hid hW0
  clear hW0 hcur
  go_enter Tryz.func29, Tryz.ntmps29
  go_wp2_with fail
  rw [HW0.out]
  refine (drawTree 4 (by omega) g _ D0.cur).mono ?_
  rintro e w1 ⟨t, rfl, hts, hdg, htm⟩
  have D1 := D0.draw hdg.cur hdg.grown
  have R1 := R0.turn (turn_drawn hdg.grown) (.inr (by omega))
  have hw1 := hdg.grown.size
  rw [hs0] at htm hw1
  obtain ⟨W2, hW2⟩ : ∃ W, w1.alloc (.cells #[.int .i64 t.kd, .int .i64 t.k, .int .i64 t.u, .int .i64 t.v, .slice t.a t.args.length t.cap] 27) = W := ⟨_, rfl⟩
  have T1 : Two w g w1.heap.size zeroCells [.int .i64 t.kd, .int .i64 t.k, .int .i64 t.u, .int .i64 t.v, .slice t.a t.args.length t.cap] W2 := by
    rw [← hW2]
    exact Two.new D1 R1 t.cells _
  have M1 : t.Mine W2 (w.heap.size + 1) w1.heap.size := by
    rw [← hW2]
    exact htm.below ((Below.refl _ _).alloc (Nat.le_refl _) _)
  have hs2 : W2.heap.size = w1.heap.size + 1 := by rw [← hW2]; simp
  have HW2 := Lib.hid hW2
  have HTS := Lib.hid (show t.er.size ≤ 31 from hts)
  clear hW2 D1 R1 D0 R0 HW0 hdg htm hts
  go_wp2_with fail
  rw [HW2.out]
  refine (drawBelow g 10 _ (by omega) (by omega) T1.d.cur).mono ?_
  rintro e w3 ⟨y, hy, rfl, hc, hw⟩
  have T3 := T1.draw hc hw
  have M3 := Ft.Mine.turn (turn_drawn hw) t M1 (.inl (by omega))
  have hw3 := hw.size
  rw [hs2] at hw3
  clear hc hw T1 M1 HW2 hs2
  generalize w1.heap.size = b at *
  by_cases y0 : y = 0
  · subst y0
    have f3 := T3.x.f
    have x3 := T3.x.c 0 _ rfl
    have l3 := T3.x.lt
    go_wp2_with fail
    refine (drawBelow g 15 _ (by omega) (by omega) T3.d.cur).mono ?_
    rintro e w4 ⟨z, hz, rfl, hc, hw⟩
    have T4 := T3.draw hc hw
    have M4 := Ft.Mine.turn (turn_drawn hw) t M3 (.inl (by omega))
    have hw4 := hw.size
    have x4 := T4.x.c 0 _ rfl
    have f4 := T4.x.f
    have hwr : IntKind.i64.wrap ((z : Int) - 1) = (z : Int) - 1 := wrap_less (by omega)
    have T5 := T4.put 0 (.int .i64 ((z : Int) - 1))
    simp only [List.set] at T5
    have M5 := Ft.Mine.turn (turn_set w4 b 0 (.int .i64 ((z : Int) - 1))) t M4 (.inr (by omega))
    clear hc hw T3 M3 x3 f3 T4 M4
    have q0 := T5.x.c 0 _ rfl
    have q1 := T5.x.c 1 _ rfl
    have q2 := T5.x.c 2 _ rfl
    have q3 := T5.x.c 3 _ rfl
    have q4 := T5.x.c 4 _ rfl
    have r0 := T5.r.c 0 _ rfl
    have r1 := T5.r.c 1 _ rfl
    have r2 := T5.r.c 2 _ rfl
    have r3 := T5.r.c 3 _ rfl
    have r4 := T5.r.c 4 _ rfl
    have rf := T5.r.f
    have rl := T5.r.lt
    have E0 := ((((T5.res 0 (.int .i64 ((z : Int) - 1))).res 1 (.int .i64 t.k)).res 2 (.int .i64 t.u)).res 3 (.int .i64 t.v)).res 4 (.slice t.a (t.args.length) t.cap)
    have hTT := ((((turn_set (w4.setCell ⟨b, 0, none⟩ (.int .i64 ((z : Int) - 1))) w.heap.size 0 (.int .i64 ((z : Int) - 1))).trans (turn_set _ w.heap.size 1 (.int .i64 t.k))).trans (turn_set _ w.heap.size 2 (.int .i64 t.u))).trans (turn_set _ w.heap.size 3 (.int .i64 t.v))).trans (turn_set _ w.heap.size 4 (.slice t.a (t.args.length) t.cap))
    have hM := Ft.Mine.turn hTT _ (Ft.mine_head M5 ((z : Int) - 1) t.k t.u t.v) (.inl (by omega))
    have HE := Lib.hid (And.intro E0.d hM)
    clear E0 hTT hM T5
    go_wp2_with fail
    refine bodyPost_ret (v := .agg #[.int .i64 ((z : Int) - 1), .int .i64 t.k, .int .i64 t.u, .int .i64 t.v, .slice t.a (t.args.length) t.cap]) (by simp [results, Tryz.results29, go_sem, r0, r1, r2, r3, r4]) rfl ⟨.mk ((z : Int) - 1) t.k t.u t.v t.a t.cap t.args, rfl, by rw [Ft.size_head]; have := HTS.out; omega, HE.out.1, ?_⟩
    have h := HE.out.2
    simp only [World.size_setCell] at h ⊢
    exact Ft.Mine.grow _ h (by omega) (by omega) (by simp)
  by_cases y1 : y = 1
  · subst y1
    have f3 := T3.x.f
    have x3 := T3.x.c 1 _ rfl
    have l3 := T3.x.lt
    have hg3 := T3.d.cur.lt
    go_wp2_with fail
    refine (drawPickInt g 3 (some (⟨w3.heap.size, 0, none⟩ : Addr)) [1, 3, -1] _ (by decide) (by decide) (T3.d.cur.alloc _) (beside_ints w3 [1, 3, -1] _ hg3)).mono ?_
    rintro e w4 ⟨z, hz, rfl, hc, hw⟩
    obtain ⟨z, rfl⟩ : ∃ n, z = .int .i64 n := by
      simp [intVals] at hz
      rcases hz with rfl | rfl | rfl <;> exact ⟨_, rfl⟩
    have hal := (Below.refl w3.heap.size w3).alloc (Nat.le_refl _) (.cells (intVals [1, 3, -1]).toArray 3)
    have T4 := (T3.below hal).draw hc hw
    have M4 := Ft.Mine.turn (turn_drawn hw) t (M3.below hal) (.inl (by omega))
    have hw4 := hw.size
    simp at hw4
    have x4 := T4.x.c 1 _ rfl
    have f4 := T4.x.f
    have T5 := T4.put 1 (.int .i64 z)
    simp only [List.set] at T5
    have M5 := Ft.Mine.turn (turn_set w4 b 1 (.int .i64 z)) t M4 (.inr (by omega))
    clear hc hw T3 M3 x3 f3 T4 M4 hal hz
    have q0 := T5.x.c 0 _ rfl
    have q1 := T5.x.c 1 _ rfl
    have q2 := T5.x.c 2 _ rfl
    have q3 := T5.x.c 3 _ rfl
    have q4 := T5.x.c 4 _ rfl
    have r0 := T5.r.c 0 _ rfl
    have r1 := T5.r.c 1 _ rfl
    have r2 := T5.r.c 2 _ rfl
    have r3 := T5.r.c 3 _ rfl
    have r4 := T5.r.c 4 _ rfl
    have rf := T5.r.f
    have rl := T5.r.lt
    have E0 := ((((T5.res 0 (.int .i64 t.kd)).res 1 (.int .i64 z)).res 2 (.int .i64 t.u)).res 3 (.int .i64 t.v)).res 4 (.slice t.a (t.args.length) t.cap)
    have hTT := ((((turn_set (w4.setCell ⟨b, 1, none⟩ (.int .i64 z)) w.heap.size 0 (.int .i64 t.kd)).trans (turn_set _ w.heap.size 1 (.int .i64 z))).trans (turn_set _ w.heap.size 2 (.int .i64 t.u))).trans (turn_set _ w.heap.size 3 (.int .i64 t.v))).trans (turn_set _ w.heap.size 4 (.slice t.a (t.args.length) t.cap))
    have hM := Ft.Mine.turn hTT _ (Ft.mine_head M5 t.kd z t.u t.v) (.inl (by omega))
    have HE := Lib.hid (And.intro E0.d hM)
    clear E0 hTT hM T5
    go_wp2_with fail
    refine bodyPost_ret (v := .agg #[.int .i64 t.kd, .int .i64 z, .int .i64 t.u, .int .i64 t.v, .slice t.a (t.args.length) t.cap]) (by simp [results, Tryz.results29, go_sem, r0, r1, r2, r3, r4]) rfl ⟨.mk t.kd z t.u t.v t.a t.cap t.args, rfl, by rw [Ft.size_head]; have := HTS.out; omega, HE.out.1, ?_⟩
    have h := HE.out.2
    simp only [World.size_setCell] at h ⊢
    exact Ft.Mine.grow _ h (by omega) (by omega) (by simp)
  by_cases y2 : y = 2
  · subst y2
    have f3 := T3.x.f
    have x3 := T3.x.c 2 _ rfl
    have l3 := T3.x.lt
    have hg3 := T3.d.cur.lt
    go_wp2_with fail
    refine (drawPickInt g 3 (some (⟨w3.heap.size, 0, none⟩ : Addr)) [3, 4, -1] _ (by decide) (by decide) (T3.d.cur.alloc _) (beside_ints w3 [3, 4, -1] _ hg3)).mono ?_
    rintro e w4 ⟨z, hz, rfl, hc, hw⟩
    obtain ⟨z, rfl⟩ : ∃ n, z = .int .i64 n := by
      simp [intVals] at hz
      rcases hz with rfl | rfl | rfl <;> exact ⟨_, rfl⟩
    have hal := (Below.refl w3.heap.size w3).alloc (Nat.le_refl _) (.cells (intVals [3, 4, -1]).toArray 3)
    have T4 := (T3.below hal).draw hc hw
    have M4 := Ft.Mine.turn (turn_drawn hw) t (M3.below hal) (.inl (by omega))
    have hw4 := hw.size
    simp at hw4
    have x4 := T4.x.c 2 _ rfl
    have f4 := T4.x.f
    have T5 := T4.put 2 (.int .i64 z)
    simp only [List.set] at T5
    have M5 := Ft.Mine.turn (turn_set w4 b 2 (.int .i64 z)) t M4 (.inr (by omega))
    clear hc hw T3 M3 x3 f3 T4 M4 hal hz
    have q0 := T5.x.c 0 _ rfl
    have q1 := T5.x.c 1 _ rfl
    have q2 := T5.x.c 2 _ rfl
    have q3 := T5.x.c 3 _ rfl
    have q4 := T5.x.c 4 _ rfl
    have r0 := T5.r.c 0 _ rfl
    have r1 := T5.r.c 1 _ rfl
    have r2 := T5.r.c 2 _ rfl
    have r3 := T5.r.c 3 _ rfl
    have r4 := T5.r.c 4 _ rfl
    have rf := T5.r.f
    have rl := T5.r.lt
    have E0 := ((((T5.res 0 (.int .i64 t.kd)).res 1 (.int .i64 t.k)).res 2 (.int .i64 z)).res 3 (.int .i64 t.v)).res 4 (.slice t.a (t.args.length) t.cap)
    have hTT := ((((turn_set (w4.setCell ⟨b, 2, none⟩ (.int .i64 z)) w.heap.size 0 (.int .i64 t.kd)).trans (turn_set _ w.heap.size 1 (.int .i64 t.k))).trans (turn_set _ w.heap.size 2 (.int .i64 z))).trans (turn_set _ w.heap.size 3 (.int .i64 t.v))).trans (turn_set _ w.heap.size 4 (.slice t.a (t.args.length) t.cap))
    have hM := Ft.Mine.turn hTT _ (Ft.mine_head M5 t.kd t.k z t.v) (.inl (by omega))
    have HE := Lib.hid (And.intro E0.d hM)
    clear E0 hTT hM T5
    go_wp2_with fail
    refine bodyPost_ret (v := .agg #[.int .i64 t.kd, .int .i64 t.k, .int .i64 z, .int .i64 t.v, .slice t.a (t.args.length) t.cap]) (by simp [results, Tryz.results29, go_sem, r0, r1, r2, r3, r4]) rfl ⟨.mk t.kd t.k z t.v t.a t.cap t.args, rfl, by rw [Ft.size_head]; have := HTS.out; omega, HE.out.1, ?_⟩
    have h := HE.out.2
    simp only [World.size_setCell] at h ⊢
    exact Ft.Mine.grow _ h (by omega) (by omega) (by simp)
  by_cases y3 : y = 3
  · subst y3
    have f3 := T3.x.f
    have x3 := T3.x.c 4 _ rfl
    have l3 := T3.x.lt
    have hmi := (Ft.mine_iff t).1 M3
    have hln := Fm.length_sizes (t.args.map Ft.er)
    have hse := t.size_er
    rw [List.length_map] at hln
    have hal31 : t.args.length ≤ 31 := by have := HTS.out; omega
    have HO := Lib.hid hmi.1
    have HMI := Lib.hid hmi.2
    clear hmi hln hse M3
    obtain ⟨n, hn⟩ : ∃ n, t.args.length = n := ⟨_, rfl⟩
    have HN := Lib.hid hn
    rw [hn] at HO hal31 T3 x3 HMI
    clear hn
    go_wp2_with (at_builtin; refine wpList_append_own_at _ rfl (.tmp 29) (.tmp 31) 25 rfl (w.heap.size + 1) 27 i0 _ 5 56 Tryz.underlying25 hi hz0 hz1 hz2 rfl (by decide) (.slice t.a n t.cap) n (fmVals t.args) rfl (HO.out.2.1.alloc _) ⟨w3.heap.size, 0, none⟩ 1 1 leafT.cells rfl rfl (news_cells w3 leafT _) (cells_one leafT) (by unfold maxLen; omega) (by omega) (by simp; omega) ?_; intro v6 w6 hown6 hg6 _ hloc6; obtain ⟨va6, vc6, rfl, _⟩ := own_form5 hown6; have t6 : Turn (w.heap.size + 1) b _ w6 := Turn.of_grown hg6 (fun q hq => ⟨(HO.out.2.1.lt q hq).1, HO.out.2.2 q hq⟩); have hal := (Below.refl w3.heap.size w3).alloc (Nat.le_refl _) (.cells leafT.cells.toArray 27); have T6 := (T3.below hal).turnB t6 (Nat.lt_succ_self _) (Nat.le_refl _); have M6 := Ft.Mines.grown (HMI.out.below hal) hg6; have hz6 := hg6.size; have d6 := T6.x.c 4 _ rfl; have d60 := T6.x.c 0 _ rfl; have d61 := T6.x.c 1 _ rfl; have d62 := T6.x.c 2 _ rfl; have d63 := T6.x.c 3 _ rfl; have f6 := T6.x.f; have r0 := T6.r.c 0 _ rfl; have r1 := T6.r.c 1 _ rfl; have r2 := T6.r.c 2 _ rfl; have r3 := T6.r.c 3 _ rfl; have r4 := T6.r.c 4 _ rfl; have rf := T6.r.f; have rl := T6.r.lt; clear x3 f3)
    simp at hz6
    obtain ⟨g9, rfl⟩ : ∃ g9, va6 = some ⟨g9, 0, none⟩ := by
      rcases hown6.2 with ⟨_, h0⟩ | ⟨g9, _, _, hv, _⟩
      · exact absurd h0 (by simp)
      · injection hv with hv _ _
        exact ⟨g9, hv⟩
    have hgb : (Value.slice t.a n t.cap).ownBlock = some g9 ∨ b < g9 := by
      rcases hloc6 with h | h
      · exact .inl h.symm
      · have h' := Option.some.inj h
        simp at h'
        exact .inr (by omega)
    have hgn : g9 < b ∨ b + 1 ≤ g9 := by
      rcases hgb with h | h
      · exact .inl (HO.out.2.2 g9 h)
      · exact .inr h
    have T5 := T6.put 4 (.slice (some ⟨g9, 0, none⟩) (n + 1) vc6)
    simp only [List.set] at T5
    have ts6 := turn_set w6 b 4 (.slice (some ⟨g9, 0, none⟩) (n + 1) vc6)
    have O5 := own_turn hown6 ts6 (fun q hq => by cases hq; exact hgn)
    have M5 := Ft.Mines.turn ts6 t.args M6 (.inr (Nat.le_refl _))
    have N5 := mine_snoc HN.out M5 (hgb.imp id Nat.le_of_lt) O5 (by simp; omega) t.kd t.k t.u t.v
    have hsz5 : (Ft.mk t.kd t.k t.u t.v (some ⟨g9, 0, none⟩) vc6 (t.args ++ [leafT])).er.size ≤ 32 := by
      rw [Ft.size_er]
      have h1 := HTS.out
      rw [Ft.size_er] at h1
      simp only [Ft.args, List.map_append, Fm.sizes_append, List.map_cons, List.map_nil, Fm.sizes, leafT, Ft.er, Ft.ers, Fm.size] at h1 ⊢
      omega
    have HS5 := Lib.hid hsz5
    clear T6 T3 hown6 hg6 t6 hal M6 hloc6 O5 M5 ts6 hgn hgb hsz5
    have hl5 : (t.args ++ [leafT]).length = n + 1 := by simp [HN.out]
    have hv5 : Ending.returned (.agg #[.int .i64 t.kd, .int .i64 t.k, .int .i64 t.u, .int .i64 t.v, .slice (some ⟨g9, 0, none⟩) (n + 1) vc6]) = .returned (Ft.mk t.kd t.k t.u t.v (some ⟨g9, 0, none⟩) vc6 (t.args ++ [leafT])).val := by
      show _ = Ending.returned (.agg #[.int .i64 t.kd, .int .i64 t.k, .int .i64 t.u, .int .i64 t.v, .slice (some ⟨g9, 0, none⟩) (t.args ++ [leafT]).length vc6])
      rw [hl5]
    have HV5 := Lib.hid hv5
    clear hl5 hv5
    have E0 := ((((T5.res 0 (.int .i64 t.kd)).res 1 (.int .i64 t.k)).res 2 (.int .i64 t.u)).res 3 (.int .i64 t.v)).res 4 (.slice (some ⟨g9, 0, none⟩) (n + 1) vc6)
    have hTT := ((((turn_set (w6.setCell ⟨b, 4, none⟩ (.slice (some ⟨g9, 0, none⟩) (n + 1) vc6)) w.heap.size 0 (.int .i64 t.kd)).trans (turn_set _ w.heap.size 1 (.int .i64 t.k))).trans (turn_set _ w.heap.size 2 (.int .i64 t.u))).trans (turn_set _ w.heap.size 3 (.int .i64 t.v))).trans (turn_set _ w.heap.size 4 (.slice (some ⟨g9, 0, none⟩) (n + 1) vc6))
    have hM := Ft.Mine.turn hTT _ (N5) (.inl (by omega))
    have HE := Lib.hid (And.intro E0.d hM)
    clear E0 hTT hM T5
    refine bodyPost_ret (v := .agg #[.int .i64 t.kd, .int .i64 t.k, .int .i64 t.u, .int .i64 t.v, .slice (some ⟨g9, 0, none⟩) (n + 1) vc6]) (by simp [results, Tryz.results29, go_sem, r0, r1, r2, r3, r4]) rfl ⟨.mk t.kd t.k t.u t.v (some ⟨g9, 0, none⟩) vc6 (t.args ++ [leafT]), HV5.out, HS5.out, HE.out.1, ?_⟩
    have h := HE.out.2
    simp only [World.size_setCell] at h ⊢
    exact Ft.Mine.grow _ h (by omega) (by omega) (by simp)
  · have hM := M3
    have T5 := T3
    have l3 := T3.x.lt
    clear T3 M3
    have y0' : ((y : Int) == 0) = false := by simp; omega
    have y1' : ((y : Int) == 1) = false := by simp; omega
    have y2' : ((y : Int) == 2) = false := by simp; omega
    have y3' : ((y : Int) == 3) = false := by simp; omega
    have q0 := T5.x.c 0 _ rfl
    have q1 := T5.x.c 1 _ rfl
    have q2 := T5.x.c 2 _ rfl
    have q3 := T5.x.c 3 _ rfl
    have q4 := T5.x.c 4 _ rfl
    have r0 := T5.r.c 0 _ rfl
    have r1 := T5.r.c 1 _ rfl
    have r2 := T5.r.c 2 _ rfl
    have r3 := T5.r.c 3 _ rfl
    have r4 := T5.r.c 4 _ rfl
    have rf := T5.r.f
    have rl := T5.r.lt
    have E0 := ((((T5.res 0 (.int .i64 t.kd)).res 1 (.int .i64 t.k)).res 2 (.int .i64 t.u)).res 3 (.int .i64 t.v)).res 4 (.slice t.a (t.args.length) t.cap)
    have hTT := ((((turn_set w3 w.heap.size 0 (.int .i64 t.kd)).trans (turn_set _ w.heap.size 1 (.int .i64 t.k))).trans (turn_set _ w.heap.size 2 (.int .i64 t.u))).trans (turn_set _ w.heap.size 3 (.int .i64 t.v))).trans (turn_set _ w.heap.size 4 (.slice t.a (t.args.length) t.cap))
    have hM := Ft.Mine.turn hTT _ (Ft.mine_head hM t.kd t.k t.u t.v) (.inl (by omega))
    have HE := Lib.hid (And.intro E0.d hM)
    clear E0 hTT hM T5
    go_wp2_with fail
    refine bodyPost_ret (v := .agg #[.int .i64 t.kd, .int .i64 t.k, .int .i64 t.u, .int .i64 t.v, .slice t.a (t.args.length) t.cap]) (by simp [results, Tryz.results29, go_sem, r0, r1, r2, r3, r4]) rfl ⟨.mk t.kd t.k t.u t.v t.a t.cap t.args, rfl, by rw [Ft.size_head]; have := HTS.out; omega, HE.out.1, ?_⟩
    have h := HE.out.2
    simp only [World.size_setCell] at h ⊢
    exact Ft.Mine.grow _ h (by omega) (by omega) (by simp)
end Go.Proofs.YtplchhahjmoodaaGreatDoor
/-
  The draws of the laws of formulas: a number and a formula, one formula, two formulas, a kind. (Printed by wip/tools/gen_draw_fms.py.)
-/
namespace Go.Proofs.YtplchhahjmoodaaGreatDoor
open Go Go.RowKit Go.ChangeAt Go.ChangeShapes Go.WideShapes

mutual
/-- No row of the formula lies in this block. -/
def Ft.Avoid (b : Nat) : Ft → Prop
  | .mk _ _ _ _ a cap pp => (∀ k, (Value.slice a pp.length cap).ownBlock = some k → k ≠ b) ∧ Ft.Avoids b pp
def Ft.Avoids (b : Nat) : List Ft → Prop
  | [] => True
  | t :: ts => t.Avoid b ∧ Ft.Avoids b ts
end
mutual
theorem Ft.Mine.apart {w w' : World} {b : Nat} (tw : Turn b (b + 1) w w') : ∀ (t : Ft) {lo hi : Nat}, t.Mine w lo hi → t.Avoid b → t.Mine w' lo hi
  | .mk _ _ _ _ a cap pp, lo, hi, h, hd => by
    rw [Ft.Mine] at h ⊢
    rw [Ft.Avoid] at hd
    exact ⟨h.1.keep tw (fun k hk => by have := hd.1 k hk; omega), Ft.Mines.apart tw pp h.2 hd.2⟩
theorem Ft.Mines.apart {w w' : World} {b : Nat} {r : Option Nat} (tw : Turn b (b + 1) w w') : ∀ (ts : List Ft) {lo hi : Nat}, Ft.Mines w lo hi r ts → Ft.Avoids b ts → Ft.Mines w' lo hi r ts
  | [], lo, hi, h, _ => h
  | t :: ts, lo, hi, h, hd => by
    rw [Ft.Mines] at h ⊢
    rw [Ft.Avoids] at hd
    obtain ⟨m1, m2, h0, h1, h2, h3⟩ := h
    exact ⟨m1, m2, h0, Ft.Mine.apart tw t h1 hd.1, h2, Ft.Mines.apart tw ts h3 hd.2⟩
end
mutual
theorem Ft.Mine.avoid {w : World} {b : Nat} : ∀ (t : Ft) {lo hi : Nat}, t.Mine w lo hi → (b < lo ∨ hi ≤ b) → t.Avoid b
  | .mk _ _ _ _ a cap pp, lo, hi, h, hd => by
    rw [Ft.Mine] at h
    rw [Ft.Avoid]
    exact ⟨fun k hk => by have h1 := (h.1.2.1.lt k hk).1; have h2 := h.1.2.2 k hk; omega, Ft.Mines.avoid pp h.2 hd⟩
theorem Ft.Mines.avoid {w : World} {b : Nat} {r : Option Nat} : ∀ (ts : List Ft) {lo hi : Nat}, Ft.Mines w lo hi r ts → (b < lo ∨ hi ≤ b) → Ft.Avoids b ts
  | [], _, _, _, _ => trivial
  | t :: ts, lo, hi, h, hd => by
    rw [Ft.Mines] at h
    rw [Ft.Avoids]
    obtain ⟨m1, m2, h0, h1, h2, h3⟩ := h
    have := Ft.Mine.le t h1
    have := Ft.Mines.le ts h3
    exact ⟨Ft.Mine.avoid t h1 (by omega), Ft.Mines.avoid ts h3 (by omega)⟩
end
theorem bentBelow {w w1 W : World} {g : Nat} (hB : Below w.heap.size w w1) (d : Dg w1 g W) (hg : w.heap.size ≤ g) : Below w.heap.size w W := below_only hB d.grown hB.size hg
/-- The negation of a formula that lies in a row of its own. -/
def notT (b : Nat) (t : Ft) : Ft := .mk 8 0 0 0 (some ⟨b, 0, none⟩) 1 [t]
theorem notT_size (b : Nat) (t : Ft) : (notT b t).er.size = t.er.size + 1 := by
  rw [notT, Ft.size_er]
  simp [Ft.args, Fm.sizes]
theorem notT_mine {W : World} {lo hi : Nat} {t : Ft} (h : t.Mine W lo hi) (hh : hi ≤ W.heap.size) : (notT W.heap.size t).Mine (W.alloc (.cells t.cells.toArray 27)) lo (W.heap.size + 1) := by
  have hb := (Below.refl W.heap.size W).alloc (Nat.le_refl _) (.cells t.cells.toArray 27)
  have hl := Ft.Mine.le t h
  have ho := World.ownsRow_lit (e := 27) (size := 5) (base := W.heap.size) W t.cells.toArray 1 (Nat.le_refl _) (by unfold maxLen; omega) (by simp [Ft.cells])
  rw [notT, Ft.Mine, Ft.Mines]
  have hf : fmVals [t] = t.cells := by simp [fmVals]
  refine ⟨⟨by simp, ?_, fun k hk => by cases hk; exact Nat.lt_succ_self _⟩, lo, hi, Nat.le_refl _, h.below hb, fun k hk => by cases hk; exact .inr hh, by rw [Ft.Mines]; omega⟩
  rw [hf]
  have hlh : lo ≤ W.heap.size := by omega
  exact own_base (by simpa using ho) hlh
theorem notT_avoid {b : Nat} {n : Nat} {t : Ft} (h : t.Avoid b) (hn : n ≠ b) : (notT n t).Avoid b := by
  rw [notT, Ft.Avoid, Ft.Avoids, Ft.Avoids]
  exact ⟨fun k hk => by cases hk; exact hn, h, trivial⟩

def SomeNumFm (w : World) (e : Ending) (w' : World) : Prop :=
  ∃ (n : Int) (t : Ft), e = .returned (.tuple #[.int .i64 n, t.val]) ∧ (2 ≤ n ∧ n ≤ 3) ∧ t.er.size ≤ 64 ∧ Solid w' t ∧ Below w.heap.size w w'
theorem num_end {w W : World} {r lo hi : Nat} {t : Ft} (hB : Below w.heap.size w W) (hr : r = w.heap.size) (hm : t.Mine W lo hi) (hl : r < lo) (hs : t.er.size ≤ 64) (u0 u1 u2 u3 u4 : Value) :
    Solid (((((W.setCell ⟨r, 0, none⟩ u0).setCell ⟨r, 1, none⟩ u1).setCell ⟨r, 2, none⟩ u2).setCell ⟨r, 3, none⟩ u3).setCell ⟨r, 4, none⟩ u4) t ∧ Below w.heap.size w (((((W.setCell ⟨r, 0, none⟩ u0).setCell ⟨r, 1, none⟩ u1).setCell ⟨r, 2, none⟩ u2).setCell ⟨r, 3, none⟩ u3).setCell ⟨r, 4, none⟩ u4) := by
  have hTT := ((((turn_set W r 0 u0).trans (turn_set _ r 1 u1)).trans (turn_set _ r 2 u2)).trans (turn_set _ r 3 u3)).trans (turn_set _ r 4 u4)
  have hh := Ft.Mine.turn hTT t hm (.inl (by omega))
  have hlw := ((Ft.mine_iff t).1 hh).1.1
  exact ⟨hh.solid hlw (by omega), Turn.below hB hTT (by omega) hB.size⟩
end Go.Proofs.YtplchhahjmoodaaGreatDoor
/-
  How long the text of a formula can be. Nothing here knows of the program.
-/
namespace Go.Proofs.YtplchhahjmoodaaGreatDoor
open Go Go.RowKit

theorem letterL_len (n : Int) : (letterL n).length = 1 := by
  unfold letterL
  repeat' split
  all_goals rfl
theorem parts_len : ∀ ts : List (List UInt8), (partL ts 0).length + (partL ts 1).length ≤ (ts.map List.length).sum
  | [] => by simp [partL]
  | [a] => by simp [partL]
  | a :: b :: r => by
    rw [List.map_cons, List.map_cons, List.sum_cons, List.sum_cons]
    show a.length + b.length ≤ _
    omega
theorem name_len {ss : List ByteArray} (h : ∀ s ∈ ss, s.size ≤ 2) (k : Int) : (nameL ss k).length ≤ 2 := by
  unfold nameL nameAt
  rw [List.getD_eq_getElem?_getD]
  cases hk : ss[k.toNat]? with
  | none => simp
  | some s =>
    have := h s (List.mem_of_getElem? hk)
    simpa using this
theorem node_len {ss : List ByteArray} (h : ∀ s ∈ ss, s.size ≤ 2) (kd k u v : Int) (ts : List (List UInt8)) : (nodeL ss kd k u v ts).length ≤ 12 + ((partL ts 0).length + (partL ts 1).length) := by
  have hu := letterL_len u
  have hv := letterL_len v
  have hk := name_len h k
  unfold nodeL
  by_cases h1 : kd = 1
  · rw [if_pos h1]
    simp only [List.length_cons, List.length_nil]
    omega
  rw [if_neg h1]
  by_cases h2 : kd = 2
  · rw [if_pos h2]
    simp only [List.length_append, List.length_cons, List.length_nil]
    omega
  rw [if_neg h2]
  by_cases h3 : kd = 3
  · rw [if_pos h3]
    simp only [List.length_append, List.length_cons, List.length_nil]
    omega
  rw [if_neg h3]
  by_cases h4 : kd = 4
  · rw [if_pos h4]
    simp only [List.length_append, List.length_cons, List.length_nil]
    omega
  rw [if_neg h4]
  by_cases h5 : kd = 5
  · rw [if_pos h5]
    simp only [List.length_append, List.length_cons, List.length_nil]
    omega
  rw [if_neg h5]
  by_cases h6 : kd = 6
  · rw [if_pos h6]
    simp only [List.length_append, List.length_cons, List.length_nil]
    omega
  rw [if_neg h6]
  by_cases h7 : kd = 7
  · rw [if_pos h7]
    simp only [List.length_append, List.length_cons, List.length_nil]
    omega
  rw [if_neg h7]
  by_cases h8 : kd = 8
  · rw [if_pos h8]
    simp only [List.length_append, List.length_cons, List.length_nil]
    omega
  rw [if_neg h8]
  by_cases h9 : kd = 9
  · rw [if_pos h9]
    simp only [List.length_append, List.length_cons, List.length_nil]
    omega
  rw [if_neg h9]
  by_cases h10 : kd = 10
  · rw [if_pos h10]
    simp only [List.length_append, List.length_cons, List.length_nil]
    omega
  rw [if_neg h10]
  by_cases h11 : kd = 11
  · rw [if_pos h11]
    simp only [List.length_append, List.length_cons, List.length_nil]
    omega
  rw [if_neg h11]
  simp only [List.length_append, List.length_cons, List.length_nil]
  omega
mutual
theorem Fm.textL_len {ss : List ByteArray} (h : ∀ s ∈ ss, s.size ≤ 2) : ∀ t : Fm, (t.textL ss).length ≤ 12 * t.size
  | .mk kd k u v pp => by
    rw [Fm.textL, Fm.size]
    have h1 := node_len h kd k u v (Fm.textsL ss pp)
    have h2 := parts_len (Fm.textsL ss pp)
    have h3 := Fm.textsL_len h pp
    omega
theorem Fm.textsL_len {ss : List ByteArray} (h : ∀ s ∈ ss, s.size ≤ 2) : ∀ ts : List Fm, ((Fm.textsL ss ts).map List.length).sum ≤ 12 * Fm.sizes ts
  | [] => Nat.zero_le _
  | t :: ts => by
    rw [Fm.textsL, Fm.sizes, List.map_cons, List.sum_cons]
    have h1 := Fm.textL_len h t
    have h2 := Fm.textsL_len h ts
    omega
end
theorem fmText_size (ss : List ByteArray) (t : Fm) : (fmText ss t).size ≤ 480 := by
  unfold fmText
  by_cases hg : goodVars ss = true ∧ isFmB ss.length t = true
  · rw [if_pos hg]
    have h1 := Fm.textL_len (good_small hg.1).2 t
    have h2 := (form_parts hg.2).2
    have h3 : (t.textT ss).size = (t.textL ss).length := by
      rw [← text_list]
      simp
    omega
  · rw [if_neg hg]
    decide
end Go.Proofs.YtplchhahjmoodaaGreatDoor
/-
  The draws of chapter 11: names and a formula; names and a text of a formula that is turned a little.
-/
namespace Go.Proofs.YtplchhahjmoodaaGreatDoor
open Go Go.RowKit Go.ChangeAt Go.ChangeShapes Go.WideShapes

def namesF : List ByteArray := [⟨#[120]⟩, ⟨#[121]⟩, ⟨#[116]⟩]
theorem namesF_size : ∀ s ∈ namesF, s.size ≤ maxLen := by unfold maxLen; decide
theorem drawNamesF (w : World) : Calls Tryz.prog 28 #[] w fun e w' => e = .returned (.slice (some ⟨w.heap.size, 0, none⟩) 3 3) ∧ w.alloc (.cells (strVals namesF).toArray 9) = w' := by
  go_enter Tryz.func28, Tryz.ntmps28
  go_wp2
  go_ret
  exact ⟨rfl, rfl⟩
theorem beside_atF {w : World} {g b : Nat} {t : TypeId} (cs : Array Value) (hb : b = w.heap.size) (hg : g < w.heap.size) : Beside (w.alloc (.cells cs t)) g (some ⟨b, 0, none⟩) cs.toList := by
  subst hb
  exact beside_new cs hg
theorem rowInF (w : World) (xs : List Value) (t : TypeId) : RowIn w.heap.size (w.heap.size + 1) (w.alloc (.cells xs.toArray t)) (some ⟨w.heap.size, 0, none⟩) xs :=
  ⟨by simp, fun k x hx => ⟨w.heap.size, 0, rfl, Nat.le_refl _, Nat.lt_succ_self _, by rw [Nat.zero_add]; exact (BoxL.new w xs t).c k x hx⟩⟩
/-- Names and a formula, drawn. -/
def SomeVarsFm (w : World) (e : Ending) (w' : World) : Prop :=
  ∃ (v : Nat) (t : Ft), e = .returned (.tuple #[.slice (some ⟨v, 0, none⟩) 3 3, t.val]) ∧ t.er.size ≤ 64 ∧ Row w' w'.heap.size (some ⟨v, 0, none⟩) (strVals namesF) ∧ Solid w' t ∧ Below w.heap.size w w'
set_option maxRecDepth 100000 in
set_option maxHeartbeats 1600000 in
theorem drawFmText (a : Option Addr) (n cap : Nat) (w : World) (hn : n ≤ 1099511627776) (hcode : Code8 w w.heap.size n a) : Calls Tryz.prog 6 #[.slice a n cap] w (SomeVarsFm w) := by
  obtain ⟨W0, hW0⟩ : ∃ W, w.alloc (.cells #[.int .i64 0, .int .i64 0, .int .i64 0, .int .i64 0, .slice none 0 0] 27) = W := ⟨_, rfl⟩
  have hb0 : Below w.heap.size w W0 := by rw [← hW0]; exact (Below.refl _ _).alloc (Nat.le_refl _) _
  have bn0 : BoxL W0 w.heap.size zeroCells := by rw [← hW0]; exact BoxL.new w zeroCells _
  have HW0 := Lib.hid hW0
  have hs0 := bn0.lt
  clear hW0
  go_enter Tryz.func6, Tryz.ntmps6
  go_wp2_with fail
  rw [HW0.out]
  refine (drawNamesF W0).mono ?_
  rintro e V ⟨rfl, hV⟩
  have hbV : Below W0.heap.size W0 V := by rw [← hV]; exact (Below.refl _ _).alloc (Nat.le_refl _) _
  have rV : RowIn W0.heap.size (W0.heap.size + 1) V (some ⟨W0.heap.size, 0, none⟩) (strVals namesF) := by rw [← hV]; exact rowInF W0 _ _
  have bnV := bn0.below hbV
  have hBV := hb0.trans (hbV.mono hb0.size)
  have hzV := rV.1
  clear hV bn0 HW0
  go_wp2_with fail
  refine (drawNew a n cap _ hn ((hcode.keeps fun p hp => hBV.cell hp).grow hBV.size)).mono ?_
  rintro e w1 ⟨g, rfl, hg, hc1, hb1⟩
  have bn1 := bnV.below hb1
  have r1 := rV.below hb1
  have hB1 := hBV.trans (hb1.mono hBV.size)
  have hz1 := hb1.size
  clear bnV rV
  go_wp2_with fail
  refine (drawBentTree g _ hc1).mono ?_
  rintro e w2 ⟨t, rfl, hts, hdg, htm⟩
  have hw2 := hdg.grown.size
  have bn2 := bn1.turn (turn_drawn hdg.grown) (.inl (by omega))
  have r2 := r1.turn (turn_drawn hdg.grown) (.inl (by omega))
  have HE := Lib.hid (num_end (bentBelow hB1 hdg (by omega)) rfl htm (by omega) (show t.er.size ≤ 64 by omega) (.int .i64 t.kd) (.int .i64 t.k) (.int .i64 t.u) (.int .i64 t.v) (.slice t.a t.args.length t.cap))
  have hTT := ((((turn_set w2 w.heap.size 0 (.int .i64 t.kd)).trans (turn_set _ w.heap.size 1 (.int .i64 t.k))).trans (turn_set _ w.heap.size 2 (.int .i64 t.u))).trans (turn_set _ w.heap.size 3 (.int .i64 t.v))).trans (turn_set _ w.heap.size 4 (.slice t.a t.args.length t.cap))
  have HR := Lib.hid ((r2.turn hTT (.inr (by omega))).row)
  have n0 := bn2.c 0 _ rfl
  have n1 := bn2.c 1 _ rfl
  have n2 := bn2.c 2 _ rfl
  have n3 := bn2.c 3 _ rfl
  have n4 := bn2.c 4 _ rfl
  have nf := bn2.f
  have nl := bn2.lt
  have HTS := Lib.hid (show t.er.size ≤ 64 by omega)
  clear bn1 bn2 r1 r2 hTT hdg htm hts hc1 hB1
  go_wp2_with fail
  exact bodyPost_ret (v := .tuple #[.slice (some ⟨W0.heap.size, 0, none⟩) 3 3, t.val]) (by simp [results, Tryz.results6, go_sem, n0, n1, n2, n3, n4]; try rfl) rfl ⟨_, t, rfl, HTS.out, HR.out, HE.out⟩
/-- Names and a text, drawn. -/
def SomeVarsText (w : World) (e : Ending) (w' : World) : Prop :=
  ∃ (v : Nat) (s : ByteArray), e = .returned (.tuple #[.slice (some ⟨v, 0, none⟩) 3 3, .string s]) ∧ s.size ≤ 1048576 ∧ Row w' w'.heap.size (some ⟨v, 0, none⟩) (strVals namesF) ∧ Below w.heap.size w w'
def bits7 : List ByteArray := [⟨#[40]⟩, ⟨#[38]⟩, ⟨#[117]⟩, ⟨#[111, 110, 32, 120, 58, 117]⟩, ⟨#[33]⟩, ⟨#[115, 111, 109, 101, 32]⟩, ⟨#[46]⟩]
theorem bits7_size : ∀ s ∈ bits7, s.size ≤ 21 := by decide
set_option maxRecDepth 100000 in
set_option maxHeartbeats 1600000 in
theorem drawFmParse (a : Option Addr) (n cap : Nat) (w : World) (hn : n ≤ 1099511627776) (hcode : Code8 w w.heap.size n a) : Calls Tryz.prog 11 #[.slice a n cap] w (SomeVarsText w) := by
  go_enter Tryz.func11, Tryz.ntmps11
  go_wp2_with fail
  refine (drawNew a n cap _ hn hcode).mono ?_
  rintro e w1 ⟨g, rfl, hg, hc1, hb1⟩
  have hg1 := hc1.lt
  have hz1 := hb1.size
  go_wp2_with fail
  refine (drawNamesF w1).mono ?_
  rintro e V ⟨rfl, hV⟩
  have hbV : Below w1.heap.size w1 V := by rw [← hV]; exact (Below.refl _ _).alloc (Nat.le_refl _) _
  have rV : RowIn w1.heap.size (w1.heap.size + 1) V (some ⟨w1.heap.size, 0, none⟩) (strVals namesF) := by rw [← hV]; exact rowInF w1 _ _
  have hcV := hc1.keeps hbV
  have hBV := hb1.trans (hbV.mono hb1.size)
  have hzV := rV.1
  clear hV
  go_wp2_with fail
  refine (drawNamesF V).mono ?_
  rintro e U ⟨rfl, hU⟩
  have hbU : Below V.heap.size V U := by rw [← hU]; exact (Below.refl _ _).alloc (Nat.le_refl _) _
  have sU : RowIn V.heap.size (V.heap.size + 1) U (some ⟨V.heap.size, 0, none⟩) (strVals namesF) := by rw [← hU]; exact rowInF V _ _
  have rU := rV.below hbU
  have hcU := hcV.keeps hbU
  have hBU := hBV.trans (hbU.mono hBV.size)
  have hzU := sU.1
  clear hU rV hbU hbV hBV hc1 hcV hb1
  go_wp2_with fail
  refine (drawBentTree g _ hcU).mono ?_
  rintro e w2 ⟨t, rfl, hts, hdg, htm⟩
  have hw2 := hdg.grown.size
  have r2 := rU.turn (turn_drawn hdg.grown) (.inr (by omega))
  have s2 := sU.turn (turn_drawn hdg.grown) (.inr (by omega))
  have hc2 := hdg.cur
  have hB2 := bentBelow hBU hdg (by omega)
  have hin := Ft.Mine.in_ t htm (Nat.le_refl _)
  have hzt := fmText_size namesF t.er
  clear rU sU hdg hcU hBU htm
  go_wp2_with fail
  refine (specFormulaText namesF _ _ t w2 (by unfold maxLen; decide) namesF_size s2.row hin (by omega)).mono ?_
  obtain ⟨x, hx⟩ : ∃ x, fmText namesF t.er = x := ⟨_, rfl⟩
  rw [hx] at hzt ⊢
  rintro e w3 ⟨rfl, hb3⟩
  have r3 := r2.below hb3
  have hc3 := hc2.keeps hb3
  have hg3 := hc3.lt
  have hB3 := hB2.trans (hb3.mono hB2.size)
  have hz3 := hb3.size
  clear r2 s2 hc2 hB2 hb3 hin hx
  go_wp2_with fail
  refine (drawTurned g 7 480 (some (⟨w3.heap.size, 0, none⟩ : Addr)) bits7 x _ hzt (by omega) (by decide) (by decide) bits7_size (hc3.alloc _) (beside_atF (strVals bits7).toArray (by simp) (by first | omega | (simp; omega)))).mono ?_
  rintro e w4 ⟨s, hs, rfl, hc4, hw4⟩
  have hbx := (Below.refl w3.heap.size w3).alloc (Nat.le_refl _) (.cells (strVals bits7).toArray 9)
  have hB4 : Below w.heap.size w w4 := below_only (hB3.alloc hB3.size _) hw4 (by have := hB3.size; simp; omega) hg
  have r4 := ((r3.below hbx).turn (turn_drawn hw4) (.inr (by omega))).row
  have HEND := Lib.hid (show SomeVarsText w (.returned (.tuple #[.slice (some ⟨w1.heap.size, 0, none⟩) 3 3, .string s])) w4 from ⟨_, s, rfl, by omega, r4, hB4⟩)
  clear r3 r4 hB4 hw4 hB3 hc3 hc4 hbx
  go_wp2_with fail
  exact bodyPost_ret (v := .tuple #[.slice (some ⟨w1.heap.size, 0, none⟩) 3 3, .string s]) (by simp [results, Tryz.results11, go_sem]; try rfl) rfl HEND.out
end Go.Proofs.YtplchhahjmoodaaGreatDoor
