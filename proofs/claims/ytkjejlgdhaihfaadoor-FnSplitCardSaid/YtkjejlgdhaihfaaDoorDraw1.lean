/-
  The draws of chapter 1: integers, numerals, strings with a separator: of what is drawn only the range is told.
-/
import Derived.Test.YtkjejlgdhaihfaaDoorDraw
import Derived.Test.YtkjejlgdhaihfaaDoorSpecFormat
import Derived.Lib.ItoaLen
namespace Go.Proofs.YtkjejlgdhaihfaaDoor
open Go Go.RowKit

theorem only_alloc {w W : World} {r : Option Nat} (h : w.grownBy W r) (o : Obj) : w.grownBy (W.alloc o) r :=
  ⟨h.os, h.tape, h.output, Nat.le_trans h.size (by simp), fun k hk hne => (Below.heap_alloc W o k (Nat.lt_of_lt_of_le hk h.size)).trans (h.block k hk hne)⟩
theorem only_below {w W W' : World} {r : Option Nat} (h : w.grownBy W r) (hb : Below W.heap.size W W') : w.grownBy W' r :=
  ⟨hb.os.trans h.os, hb.tape.trans h.tape, hb.output.trans h.output, Nat.le_trans h.size hb.size, fun k hk hne => (hb.block k (Nat.lt_of_lt_of_le hk h.size)).trans (h.block k hk hne)⟩
theorem only_same (w : World) (r : Option Nat) : w.grownBy w r := ⟨rfl, rfl, rfl, Nat.le_refl _, fun _ _ _ => rfl⟩
theorem below_only {B g : Nat} {a w W : World} (h : Below B a w) (hg : w.grownBy W (some g)) (hB : B ≤ w.heap.size) (hBg : B ≤ g) : Below B a W :=
  h.grown hg hB fun k hk => by cases hk; exact hBg
theorem Cur.alloc {w : World} {g : Nat} (h : Cur w g) (o : Obj) : Cur (w.alloc o) g := h.keeps ((Below.refl _ _).alloc (Nat.le_refl _) _)

/-- A list beside the cursor. -/
def Beside (w : World) (g : Nat) (a : Option Addr) (xs : List Value) : Prop := ∀ k x, xs[k]? = some x → ∃ b o, a = some ⟨b, o, none⟩ ∧ b ≠ g ∧ b < w.heap.size ∧ w.cell? ⟨b, o + k, none⟩ = some x
theorem beside_new {w : World} {g : Nat} {t : TypeId} (cs : Array Value) (hg : g < w.heap.size) : Beside (w.alloc (.cells cs t)) g (some ⟨w.heap.size, 0, none⟩) cs.toList := by
  intro k x hx
  refine ⟨w.heap.size, 0, rfl, by omega, by simp, ?_⟩
  rw [World.cell?_alloc_at _ _ _ _ rfl, Nat.zero_add]
  simpa using hx

def FlagEnd (g : Nat) (w : World) (e : Ending) (w' : World) : Prop := ∃ b : Bool, e = .returned (.bool b) ∧ Cur w' g ∧ w.grownBy w' (some g)
theorem drawOnce (g n : Nat) (w : World) (h0 : 0 < n) (h1 : n ≤ 1099511627776) (hcur : Cur w g) : Calls Tryd.prog 30 #[.pointer (some ⟨g, 0, none⟩), .int .i64 (n : Int)] w (FlagEnd g w) := by
  go_enter Tryd.func30, Tryd.ntmps30
  go_wp2_with fail
  refine (drawBelow g n _ h0 h1 hcur).mono ?_
  rintro e w1 ⟨x, hx, rfl, hc1, hw1⟩
  go_wp2
  go_ret
  exact ⟨_, rfl, hc1, hw1⟩

def PickEnd (g : Nat) (xs : List Value) (w : World) (e : Ending) (w' : World) : Prop := ∃ x ∈ xs, e = .returned x ∧ Cur w' g ∧ w.grownBy w' (some g)
theorem drawPick (g cap : Nat) (a : Option Addr) (ss : List ByteArray) (w : World) (h0 : 0 < ss.length) (h1 : ss.length ≤ 1099511627776) (hcur : Cur w g) (hl : Beside w g a (strVals ss)) :
    Calls Tryd.prog 31 #[.pointer (some ⟨g, 0, none⟩), .slice a ss.length cap] w (PickEnd g (strVals ss) w) := by
  go_enter Tryd.func31, Tryd.ntmps31
  go_wp2_with fail
  refine (drawBelow g ss.length _ h0 h1 hcur).mono ?_
  rintro e w1 ⟨x, hx, rfl, hc1, hw1⟩
  obtain ⟨b, o, rfl, hbg, hbw, hc⟩ := hl x (.string ss[x]) (by simp [strVals, hx])
  have hc2 : w1.cell? ⟨b, o + x, none⟩ = some (.string ss[x]) := hw1.cell hc (by simpa using hbg)
  clear hc
  go_wp2
  go_ret
  exact ⟨.string ss[x], by simp [strVals], rfl, hc1, hw1⟩
def intVals (ns : List Int) : List Value := ns.map (Value.int .i64)
theorem drawPickInt (g cap : Nat) (a : Option Addr) (ns : List Int) (w : World) (h0 : 0 < ns.length) (h1 : ns.length ≤ 1099511627776) (hcur : Cur w g) (hl : Beside w g a (intVals ns)) :
    Calls Tryd.prog 34 #[.pointer (some ⟨g, 0, none⟩), .slice a ns.length cap] w (PickEnd g (intVals ns) w) := by
  go_enter Tryd.func34, Tryd.ntmps34
  go_wp2_with fail
  refine (drawBelow g ns.length _ h0 h1 hcur).mono ?_
  rintro e w1 ⟨x, hx, rfl, hc1, hw1⟩
  obtain ⟨b, o, rfl, hbg, hbw, hc⟩ := hl x (.int .i64 ns[x]) (by simp [intVals, hx])
  have hc2 : w1.cell? ⟨b, o + x, none⟩ = some (.int .i64 ns[x]) := hw1.cell hc (by simpa using hbg)
  clear hc
  go_wp2
  go_ret
  exact ⟨.int .i64 ns[x], by simp [intVals], rfl, hc1, hw1⟩

def wholes : List Int := [0, 1, -1, 9, 10, 999999, 1000000, 999999999999, 1000000000000, -999999999999, 9223372036854775807, -9223372036854775808]
theorem wholes_bounds : ∀ n ∈ wholes, -9223372036854775808 ≤ n ∧ n ≤ 9223372036854775807 := by
  intro n hn
  simp only [wholes, List.mem_cons, List.not_mem_nil, or_false] at hn
  omega
def WholeEnd (g : Nat) (w : World) (e : Ending) (w' : World) : Prop := ∃ n : Int, -9223372036854775808 ≤ n ∧ n ≤ 9223372036854775807 ∧ e = .returned (.int .i64 n) ∧ Cur w' g ∧ w.grownBy w' (some g)
set_option maxRecDepth 100000 in
set_option maxHeartbeats 800000 in
theorem drawWhole (g : Nat) (w : World) (hcur : Cur w g) : Calls Tryd.prog 25 #[.pointer (some ⟨g, 0, none⟩)] w (WholeEnd g w) := by
  go_enter Tryd.func25, Tryd.ntmps25
  go_wp2_with fail
  refine (drawBelow g 3 _ (by omega) (by omega) hcur).mono ?_
  rintro e w1 ⟨x, hx, rfl, hc1, hw1⟩
  have hg1 := hc1.lt
  match x, hx with
  | 0, _ =>
    go_wp2_with fail
    refine (drawPickInt g 12 _ wholes _ (by decide) (by decide) (hc1.alloc _) (show Beside _ g _ (intVals wholes) from beside_new _ hg1)).mono ?_
    rintro e w2 ⟨v, hv, rfl, hc2, hw2⟩
    obtain ⟨n, hn, rfl⟩ := List.mem_map.1 hv
    have hnb := wholes_bounds n hn
    clear hv hn
    go_wp2
    go_ret
    exact ⟨n, hnb.1, hnb.2, rfl, hc2, only_then (only_alloc hw1 _) hw2⟩
  | 1, _ =>
    go_wp2_with fail
    refine (drawBelow g 1000000 _ (by omega) (by omega) hc1).mono ?_
    rintro e w2 ⟨y, hy, rfl, hc2, hw2⟩
    go_wp2
    go_ret
    exact ⟨(y : Int) - 500000, by omega, by omega, rfl, hc2, only_then hw1 hw2⟩
  | 2, _ =>
    go_wp2_with fail
    refine (drawBelow g 20 _ (by omega) (by omega) hc1).mono ?_
    rintro e w2 ⟨y, hy, rfl, hc2, hw2⟩
    go_wp2
    go_ret
    exact ⟨(y : Int), by omega, by omega, rfl, hc2, only_then hw1 hw2⟩

def SomeIntEnd (w : World) (e : Ending) (w' : World) : Prop := ∃ n : Int, -9223372036854775808 ≤ n ∧ n ≤ 9223372036854775807 ∧ e = .returned (.int .i64 n) ∧ Below w.heap.size w w'
theorem drawFormatInt (a : Option Addr) (n cap : Nat) (w : World) (hn : n ≤ 1099511627776) (hcode : Code8 w w.heap.size n a) : Calls Tryd.prog 10 #[.slice a n cap] w (SomeIntEnd w) := by
  go_enter Tryd.func10, Tryd.ntmps10
  go_wp2_with fail
  refine (drawNew a n cap _ hn hcode).mono ?_
  rintro e w1 ⟨g, rfl, hg, hc1, hb1⟩
  go_wp2_with fail
  refine (drawWhole g _ hc1).mono ?_
  rintro e w2 ⟨m, hm0, hm1, rfl, hc2, hw2⟩
  go_wp2
  go_ret
  exact ⟨m, hm0, hm1, rfl, below_only hb1 hw2 hb1.size hg⟩

/-- A string of at most so many bytes. -/
def SomeTextEnd (most : Nat) (w : World) (e : Ending) (w' : World) : Prop := ∃ s : ByteArray, s.size ≤ most ∧ e = .returned (.string s) ∧ Below w.heap.size w w'
def numerals : List ByteArray := [⟨#[]⟩, ⟨#[48, 48]⟩, ⟨#[48, 49]⟩, ⟨#[45, 49]⟩, ⟨#[43, 49]⟩, ⟨#[120]⟩, ⟨#[57, 57, 57, 57, 57, 57]⟩, ⟨#[49, 48, 48, 48, 48, 48, 48]⟩, ⟨#[45, 48]⟩, ⟨#[45]⟩, ⟨#[32, 49]⟩, ⟨#[49, 32]⟩]
theorem numerals_size : ∀ s ∈ numerals, s.size ≤ 21 := by decide
set_option maxRecDepth 100000 in
set_option maxHeartbeats 800000 in
theorem drawParseNumber (a : Option Addr) (n cap : Nat) (w : World) (hn : n ≤ 1099511627776) (hcode : Code8 w w.heap.size n a) : Calls Tryd.prog 14 #[.slice a n cap] w (SomeTextEnd 21 w) := by
  go_enter Tryd.func14, Tryd.ntmps14
  go_wp2_with fail
  refine (drawNew a n cap _ hn hcode).mono ?_
  rintro e w1 ⟨g, rfl, hg, hc1, hb1⟩
  go_wp2_with fail
  refine (drawOnce g 2 _ (by omega) (by omega) hc1).mono ?_
  rintro e w2 ⟨b, rfl, hc2, hw2⟩
  have hg2 := hc2.lt
  cases b with
  | true =>
    go_wp2_with fail
    refine (drawWhole g _ hc2).mono ?_
    rintro e w3 ⟨m, hm0, hm1, rfl, hc3, hw3⟩
    go_wp2_with fail
    refine (specFormat m hm0 hm1 _).mono ?_
    rintro e w4 ⟨rfl, hb4⟩
    go_wp2
    go_ret
    exact ⟨⟨(Lib.itoa m).toArray⟩, (by have h := Lib.itoa_length_le m hm0 hm1; show (Lib.itoa m).toArray.size ≤ 21; simpa using h), rfl, below_only hb1 (only_below (only_then hw2 hw3) hb4) hb1.size hg⟩
  | false =>
    go_wp2_with fail
    refine (drawPick g 12 _ numerals _ (by decide) (by decide) (hc2.alloc _) (show Beside _ g _ (strVals numerals) from beside_new _ hg2)).mono ?_
    rintro e w3 ⟨v, hv, rfl, hc3, hw3⟩
    obtain ⟨s, hs, rfl⟩ := List.mem_map.1 hv
    have hsz := numerals_size s hs
    clear hv hs
    go_wp2
    go_ret
    exact ⟨s, hsz, rfl, below_only hb1 (only_then (only_alloc hw2 _) hw3) hb1.size hg⟩

/-- A string and a separator. -/
def SomeSplitEnd (w : World) (e : Ending) (w' : World) : Prop := ∃ (s : ByteArray) (c : UInt8), s.size ≤ 21 ∧ e = .returned (.tuple #[.string s, .int .u8 (c.toNat : Int)]) ∧ Below w.heap.size w w'
def splits : List ByteArray := [⟨#[]⟩, ⟨#[97]⟩, ⟨#[97, 44, 98]⟩, ⟨#[44]⟩, ⟨#[97, 44, 44, 98, 44]⟩, ⟨#[97, 10, 98, 10]⟩]
theorem splits_size : ∀ s ∈ splits, s.size ≤ 21 := by decide
set_option maxRecDepth 100000 in
set_option maxHeartbeats 800000 in
theorem drawSplitByte (a : Option Addr) (n cap : Nat) (w : World) (hn : n ≤ 1099511627776) (hcode : Code8 w w.heap.size n a) : Calls Tryd.prog 17 #[.slice a n cap] w (SomeSplitEnd w) := by
  go_enter Tryd.func17, Tryd.ntmps17
  go_wp2_with fail
  refine (drawNew a n cap _ hn hcode).mono ?_
  rintro e w1 ⟨g, rfl, hg, hc1, hb1⟩
  have hg1 := hc1.lt
  go_wp2_with fail
  refine (drawPick g 6 _ splits _ (by decide) (by decide) (hc1.alloc _) (show Beside _ g _ (strVals splits) from beside_new _ hg1)).mono ?_
  rintro e w2 ⟨v, hv, rfl, hc2, hw2⟩
  obtain ⟨s, hs, rfl⟩ := List.mem_map.1 hv
  have hsz := splits_size s hs
  have hg2 := hc2.lt
  clear hv hs
  go_wp2_with fail
  refine (drawPickInt g 2 _ [44, 10] _ (by decide) (by decide) (hc2.alloc _) (show Beside _ g _ (intVals [44, 10]) from beside_new _ hg2)).mono ?_
  rintro e w3 ⟨v, hv, rfl, hc3, hw3⟩
  have hbw : Below w.heap.size w w3 := below_only hb1 (only_then (only_alloc (only_then (only_alloc (only_same _ _) _) hw2) _) hw3) hb1.size hg
  simp only [intVals, List.map_cons, List.map_nil, List.mem_cons, List.not_mem_nil, or_false] at hv
  rcases hv with rfl | rfl
  · go_wp2
    go_ret2
    exact ⟨s, 44, hsz, rfl, hbw⟩
  · go_wp2
    go_ret2
    exact ⟨s, 10, hsz, rfl, hbw⟩

theorem bigNo (a : Option Addr) (n cap : Nat) (w : World) (h : n ≤ 1048576) : Calls Tryd.prog 9 #[.slice a n cap] w fun e w' => e = .returned (.bool false) ∧ w = w' := by
  have hd : decide ((1048576 : Int) < (n : Int)) = false := by simp; omega
  go_enter Tryd.func9, Tryd.ntmps9
  go_wp2
  go_ret
  exact ⟨rfl, rfl⟩
theorem bigYes (a : Option Addr) (n cap : Nat) (w : World) (hm : n ≤ maxLen) (h : 1048576 < n) : Calls Tryd.prog 9 #[.slice a n cap] w fun e w' => e = .returned (.bool true) ∧ w = w' := by
  unfold maxLen at hm
  have hd : decide ((1048576 : Int) < (n : Int)) = true := by simp; omega
  go_enter Tryd.func9, Tryd.ntmps9
  go_wp2
  go_ret
  exact ⟨rfl, rfl⟩

open Go.ChangeShapes Go.WideShapes Go.ChangeAt in
/-- A []byte argument, opened. -/
theorem open_codes {H : Type} {enc : TypeId × Value → H} {P : Program} {W : World} {t e : TypeId} {v : Value} {d : DataW H} {ps : List MemPlace} {base : Nat}
    (ht : P.underlying t = some (.slice e)) (he : P.underlying e = some (.int .u8)) (hc : P.cellsOf e = 1) (hlt : ∀ x ∈ ps, x.block < W.heap.size)
    (hval : Value.okWide P W .any base t v) (h : DataW.Trod enc P W 0 (fun _ => true) true t v d ps) :
    ∃ (a : Option Addr) (n cap : Nat), v = .slice a n cap ∧ n ≤ cap ∧ n ≤ maxLen ∧ Code8 W W.heap.size n a := by
  obtain ⟨a0, len, cap, rfl⟩ := okWide_slice ht hval
  obtain ⟨fuel, hf⟩ := h
  rcases open_ints ht he hc hf with ⟨hcs, hx⟩ | ⟨a, len', cap', zs, hcs, _, hl, hm, hz, hx, hcell, hws⟩
  · simp [Value.cells] at hcs
    obtain ⟨rfl, rfl, rfl⟩ := hcs
    exact ⟨none, 0, 0, rfl, Nat.le_refl _, Nat.zero_le _, fun k hk => by omega⟩
  · simp [Value.cells] at hcs
    obtain ⟨rfl, rfl, rfl⟩ := hcs
    simp only [Prod.mk.injEq] at hx
    obtain ⟨rfl, rfl⟩ := hx
    simp only [if_true] at hz
    refine ⟨some a, len, cap, rfl, hl, by omega, fun k hk => ?_⟩
    have hkz : k < zs.length := by omega
    obtain ⟨b, off, spot⟩ := a
    have hspot : spot = none := by simpa [Addr.add] using World.cell?_spot (hcell 0 (by omega))
    subst hspot
    have hwf := u8_bounds (hws (zs.getD k 0) (by simp [List.getD, hkz]))
    refine ⟨b, off, (zs.getD k 0).toNat, rfl, hlt (.cell b (off + 0)) (MemPlace.mem_row.2 ⟨0, by omega, by simp⟩), by omega, ?_⟩
    rw [← add_plain, hcell k (by omega)]
    rw [Int.toNat_of_nonneg hwf.1]
end Go.Proofs.YtkjejlgdhaihfaaDoor
