/-
  Proved: for every list of names, every statement and every heap the law FnExactExec returns true and leaves its arguments as they were, where the listed table of the program reads as its text lays it (the card ties it).
-/
import Derived.Test.YtpmmjaceehlpiaaDoorCards
import Derived.Test.YtpmmjaceehlpiaaDoorTie
import Derived.ChangeMaps5
import Derived.LaidLaws
import Derived.Deep.RegionHeld3
import Derived.Deep.DeepWitnessRowRef
import Derived.LaidMore
import Derived.Handy
import Derived.Test.YtpmmjaceehlpiaaDoorZ17
import Derived.Test.YtpmmjaceehlpiaaDoorZ02
namespace Go.Proofs.YtpmmjaceehlpiaaDoor.exactExec
open Go Go.RowKit Go.ChangeShapes Go.WideShapes Go.ChangeAt

/-- The law said true, and nothing old has turned. -/
def TrueEnd (w : World) (e : Ending) (w' : World) : Prop := e = .returned (.bool true) ∧ Below w.heap.size w w'

/-- A heap that a call made, in a box: all of it between B and T. -/
structure Ans (B T : Nat) (W : World) (R lo hi : Nat) (xa : Option Addr) (xca : Nat) (xb : Option Addr) (xcb : Nat) (ps qs : List Int) : Prop where
  box : BoxL W R [.slice xa ps.length xca, .slice xb qs.length xcb]
  hin : HeapIn lo hi W xa xca xb xcb (intVals ps) (intVals qs)
  out : R < lo ∨ hi ≤ R
  lo_ : B ≤ lo
  loR : B ≤ R
  hi_ : hi ≤ T
  hiR : R < T
  top : T ≤ W.heap.size
section
variable {B T : Nat} {W W' : World} {R lo hi lo' hi' xca xcb : Nat} {xa xb : Option Addr} {ps qs : List Int}
theorem Ans.below (h : Ans B T W R lo hi xa xca xb xcb ps qs) (hb : Below W.heap.size W W') : Ans B T W' R lo hi xa xca xb xcb ps qs :=
  ⟨h.box.below hb, h.hin.below hb, h.out, h.lo_, h.loR, h.hi_, h.hiR, Nat.le_trans h.top hb.size⟩
theorem Ans.turn (h : Ans B T W R lo hi xa xca xb xcb ps qs) (t : Turn lo' hi' W W') (hd : hi' ≤ B ∨ T ≤ lo') : Ans B T W' R lo hi xa xca xb xcb ps qs := by
  have h1 := h.lo_
  have h2 := h.loR
  have h3 := h.hi_
  have h4 := h.hiR
  exact ⟨h.box.turn t (by omega), h.hin.turn t (by omega), h.out, h1, h2, h3, h4, Nat.le_trans h.top t.size⟩
end
/-- The arguments. -/
structure Kept (w : World) (k : Int) (sa sb : ByteArray) (u0 u1 : Value) (W : World) : Prop where
  st : BoxL W w.heap.size [.int .i64 k, .string sa, .string sb]
  he : BoxL W (w.heap.size + 1) [u0, u1]
  b : Below w.heap.size w W
section
variable {w W W' : World} {k : Int} {sa sb : ByteArray} {u0 u1 : Value} {lo hi : Nat}
theorem Kept.below (h : Kept w k sa sb u0 u1 W) (hb : Below W.heap.size W W') : Kept w k sa sb u0 u1 W' := ⟨h.st.below hb, h.he.below hb, h.b.trans (hb.mono h.b.size)⟩
theorem Kept.turn (h : Kept w k sa sb u0 u1 W) (t : Turn lo hi W W') (hl : w.heap.size + 2 ≤ lo) : Kept w k sa sb u0 u1 W' :=
  ⟨h.st.turn t (.inl (by omega)), h.he.turn t (.inl (by omega)), t.below h.b (by omega) h.b.size⟩
theorem Kept.lt (h : Kept w k sa sb u0 u1 W) : w.heap.size + 1 < W.heap.size := h.he.lt
theorem Kept.five (h : Kept w k sa sb u0 u1 W) : (W.cell? ⟨w.heap.size, 0, none⟩ = some (.int .i64 k) ∧ W.cell? ⟨w.heap.size, 1, none⟩ = some (.string sa) ∧ W.cell? ⟨w.heap.size, 2, none⟩ = some (.string sb)) ∧ (W.cell? ⟨w.heap.size + 1, 0, none⟩ = some u0 ∧ W.cell? ⟨w.heap.size + 1, 1, none⟩ = some u1) :=
  ⟨⟨h.st.c 0 _ rfl, h.st.c 1 _ rfl, h.st.c 2 _ rfl⟩, h.he.c 0 _ rfl, h.he.c 1 _ rfl⟩
end
theorem nil_len {W : World} {p q : Option Addr} {vs zs : List Int} (h : HeapAt W p q vs zs) : (p = none → vs.length = 0) ∧ (q = none → zs.length = 0) :=
  ⟨fun e => by subst e; have := row_nil h.v; simpa [intVals] using this, fun e => by subst e; have := row_nil h.z; simpa [intVals] using this⟩

theorem grown_callE {w W W' : World} {r : Option Nat} (h : w.grownBy W r) (hb : Below W.heap.size W W') : w.grownBy W' r :=
  ⟨hb.os.trans h.os, hb.tape.trans h.tape, hb.output.trans h.output, Nat.le_trans h.size hb.size, fun k hk hne => (hb.block k (Nat.lt_of_lt_of_le hk h.size)).trans (h.block k hk hne)⟩
def MarkedE (base k n : Nat) (a : Option Addr) (cap : Nat) (w : World) (e : Ending) (w' : World) : Prop :=
  e = .returned (.int .i64 ((k + n : Nat) : Int)) ∧ w'.ownsRow base 9 1 (.slice a n cap) n (strVals (marksFrom k n)) ∧ w.grownBy w' (Value.slice a n cap).ownBlock
set_option maxRecDepth 100000 in
set_option maxHeartbeats 400000 in
theorem markStrsE (base k n : Nat) (a : Option Addr) (cap : Nat) (xs : List Value) (w : World) (hn : n ≤ 549755813888) (hk : k ≤ 549755813888) (hown : w.ownsRow base 9 1 (.slice a n cap) n xs) :
    Calls Tryd.prog 25 #[.slice a n cap, .int .i64 k] w (MarkedE base k n a cap w) := by
  go_enter Tryd.func25, Tryd.ntmps25
  go_wp2
  go_loopw [1, 5] (fun m i wr => ∃ (j : Nat) (ys : List Value), j ≤ n ∧ i = .int .i64 j ∧ m = .int .i64 ((k + j : Nat) : Int) ∧ ys.take j = strVals (marksFrom k j) ∧ ys.length = n ∧ wr.ownsRow base 9 1 (.slice a n cap) n ys ∧ w.grownBy wr (Value.slice a n cap).ownBlock)
    (fun _ i _ => n - (intOf i).toNat)
  case atStart => exact ⟨0, xs, Nat.zero_le _, rfl, rfl, by simp [strVals, marksFrom], by simpa using hown.1, hown, grown_self _ _⟩
  case round =>
    obtain ⟨j, ys, hj, rfl, rfl, hys, hyl, ho, hb⟩ := hrel
    by_cases hlt : j < n
    · obtain ⟨g, rfl⟩ : ∃ g, a = some ⟨g, 0, none⟩ := by
        rcases ho.2 with ⟨_, h0⟩ | ⟨g, _, _, hv, _⟩
        · omega
        · injection hv with hv _ _
          exact ⟨g, hv⟩
      have hklt : j < ys.length := by omega
      have Hys := Lib.hid hys
      have Hyl := Lib.hid hyl
      have Ho := Lib.hid ho
      clear hys hyl ho
      go_wp2_with fail
      refine (markText (k + j) (by omega) _).mono ?_
      rintro e w1 ⟨rfl, hb1⟩
      have ho1 := own_keeps Ho.out hb1
      obtain ⟨old, hold⟩ : ∃ old, w1.cell? ⟨g, j, none⟩ = some old := ⟨_, (ho1.cellAt j (by omega)).trans (List.getElem?_eq_getElem hklt)⟩
      have hfr := ho1.frozenAt j
      have hst := ho1.stored j (.string (markS (k + j)))
      have hb2 : w.grownBy w1 (some g) := grown_callE hb hb1
      clear ho1
      go_wp2
      go_roundw
      case rel => exact ⟨j + 1, ys.set j (.string (markS (k + j))), by omega, by go_num, by go_num, by rw [set_take' ys j _ hklt, Hys.out, marks_next]; exact (strVals_snoc _ _).symm, by rw [List.length_set]; exact Hyl.out, hst.1, grown_cell hb2⟩
      case measure => simp [intOf]; omega
    · have hjn : j = n := by omega
      subst hjn
      have hfull : ys = strVals (marksFrom k j) := by
        rw [List.take_of_length_le (by omega)] at hys
        exact hys
      subst hfull
      have Hyl := Lib.hid hyl
      clear hys hyl
      go_wp2
      go_ret
      exact ⟨rfl, ho, hb⟩

theorem toStrsL (a : Option Addr) (cap : Nat) (ss : List ByteArray) (w : World) (hn : ss.length ≤ 1099511627776) (hrow : Row w w.heap.size a (strVals ss)) :
    Calls Tryd.prog 20 #[.slice a ss.length cap] w fun e w' => ∃ o, w.heap.size ≤ o ∧ e = .returned (.slice (some ⟨o, 0, none⟩) ss.length ss.length) ∧ w'.ownsRow o 9 1 (.slice (some ⟨o, 0, none⟩) ss.length ss.length) ss.length (strVals ss) ∧ Below w.heap.size w w' :=
  (toStrs a cap ss w hn hrow).mono fun _ _ ⟨h1, h2, h3⟩ => ⟨_, Nat.le_refl _, h1, h2, h3⟩
def ExecL (c : Int) (ps qs : List Int) (w : World) (e : Ending) (w' : World) : Prop :=
  ∃ lo a ca b cb, w.heap.size ≤ lo ∧ e = .returned (.tuple #[heV a ps.length ca b qs.length cb, .int .i64 c]) ∧ HeapIn lo w'.heap.size w' a ca b cb (intVals ps) (intVals qs) ∧ Below w.heap.size w w'
def frame11 (va : Option Addr) (vc : Nat) (ss : List ByteArray) (k : Int) (sa sb : ByteArray) (a b : Option Addr) (ca cb : Nat) (vs zs : List Int) (B : Nat) (c9 : Int)  (R : Nat) (u7 u19 u20 u21 u22 u23 u24 u25 u26 u27 u28 u29 u30 u31 u32 u33 u34 u35 u36 u37 u38 u39 u40 u41 u42 u43 : Value) : Act :=
  { tmps := #[.slice va ss.length vc, stV k sa sb, heV a vs.length ca b zs.length cb, undef, .pointer (some ⟨B, 0, none⟩), .pointer (some ⟨B + 1, 0, none⟩), .bool false, u7, .pointer (some ⟨R, 0, none⟩), .int .i64 c9, undef, undef, undef, undef, undef, undef, undef, undef, undef, u19, u20, u21, u22, u23, u24, u25, u26, u27, u28, u29, u30, u31, u32, u33, u34, u35, u36, u37, u38, u39, u40, u41, u42, u43, undef, undef, undef, undef, undef, undef, undef, undef, undef, undef, undef, undef, undef, undef, undef, undef, undef, undef, undef, undef, undef, undef, undef, undef, undef, undef, undef, undef, undef, undef, undef, undef, undef, undef, undef, undef, undef, undef, undef, undef, undef, undef, undef, undef, undef, undef, undef, undef, undef, undef, undef, undef, undef, undef, undef, undef, undef, undef, undef, undef, undef, undef, undef, undef, undef, undef, undef, undef, undef, undef, undef, undef, undef, undef, undef, undef, undef, undef, undef, undef, undef, undef, undef, undef, undef, undef, undef, undef], defers := [] }
def After11 (va : Option Addr) (vc : Nat) (ss : List ByteArray) (k : Int) (sa sb : ByteArray) (a b : Option Addr) (ca cb : Nat) (vs zs : List Int) (B : Nat) (c9 : Int)  (w0 : World) (ps qs : List Int) (e : Exit) (act : Act) (W : World) : Prop :=
  e = .normal ∧ ∃ R lo hi xa xca xb xcb u7 u19 u20 u21 u22 u23 u24 u25 u26 u27 u28 u29 u30 u31 u32 u33 u34 u35 u36 u37 u38 u39 u40 u41 u42 u43, act = frame11 va vc ss k sa sb a b ca cb vs zs B c9  R u7 u19 u20 u21 u22 u23 u24 u25 u26 u27 u28 u29 u30 u31 u32 u33 u34 u35 u36 u37 u38 u39 u40 u41 u42 u43 ∧ Ans w0.heap.size W.heap.size W R lo hi xa xca xb xcb ps qs ∧ Below w0.heap.size w0 W
def frame14 (va : Option Addr) (vc : Nat) (ss : List ByteArray) (k : Int) (sa sb : ByteArray) (a b : Option Addr) (ca cb : Nat) (vs zs : List Int) (B : Nat) (c9 : Int) (RP X RX : Nat) (R : Nat) (u7 u19 u20 u21 u22 u23 u24 u25 u26 u27 u28 u29 u30 u31 u32 u33 u34 u35 u36 u37 u38 u39 u40 u41 u42 u43 u44 u45 u46 u47 u48 u49 u50 u51 u52 u53 u54 u55 : Value) : Act :=
  { tmps := #[.slice va ss.length vc, stV k sa sb, heV a vs.length ca b zs.length cb, undef, .pointer (some ⟨B, 0, none⟩), .pointer (some ⟨B + 1, 0, none⟩), .bool false, u7, .pointer (some ⟨RP, 0, none⟩), .int .i64 c9, .slice (some ⟨X, 0, none⟩) ss.length ss.length, .pointer (some ⟨RX, 0, none⟩), .pointer (some ⟨R, 0, none⟩), .int .i64 c9, undef, undef, undef, undef, undef, u19, u20, u21, u22, u23, u24, u25, u26, u27, u28, u29, u30, u31, u32, u33, u34, u35, u36, u37, u38, u39, u40, u41, u42, u43, u44, u45, u46, u47, u48, u49, u50, u51, u52, u53, u54, u55, undef, undef, undef, undef, undef, undef, undef, undef, undef, undef, undef, undef, undef, undef, undef, undef, undef, undef, undef, undef, undef, undef, undef, undef, undef, undef, undef, undef, undef, undef, undef, undef, undef, undef, undef, undef, undef, undef, undef, undef, undef, undef, undef, undef, undef, undef, undef, undef, undef, undef, undef, undef, undef, undef, undef, undef, undef, undef, undef, undef, undef, undef, undef, undef, undef, undef, undef, undef, undef, undef, undef, undef, undef, undef, undef, undef], defers := [] }
def After14 (va : Option Addr) (vc : Nat) (ss : List ByteArray) (k : Int) (sa sb : ByteArray) (a b : Option Addr) (ca cb : Nat) (vs zs : List Int) (B : Nat) (c9 : Int) (RP X RX : Nat) (w0 : World) (ps qs : List Int) (e : Exit) (act : Act) (W : World) : Prop :=
  e = .normal ∧ ∃ R lo hi xa xca xb xcb u7 u19 u20 u21 u22 u23 u24 u25 u26 u27 u28 u29 u30 u31 u32 u33 u34 u35 u36 u37 u38 u39 u40 u41 u42 u43 u44 u45 u46 u47 u48 u49 u50 u51 u52 u53 u54 u55, act = frame14 va vc ss k sa sb a b ca cb vs zs B c9 RP X RX R u7 u19 u20 u21 u22 u23 u24 u25 u26 u27 u28 u29 u30 u31 u32 u33 u34 u35 u36 u37 u38 u39 u40 u41 u42 u43 u44 u45 u46 u47 u48 u49 u50 u51 u52 u53 u54 u55 ∧ Ans w0.heap.size W.heap.size W R lo hi xa xca xb xcb ps qs ∧ Below w0.heap.size w0 W
def frame34 (va : Option Addr) (vc : Nat) (ss : List ByteArray) (k : Int) (sa sb : ByteArray) (a b : Option Addr) (ca cb : Nat) (vs zs : List Int) (B : Nat) (c9 : Int) (RP RG : Nat) (m15 : Int) (R : Nat) (u7 u10 u11 u14 u16 u19 u20 u21 u22 u23 u24 u25 u26 u27 u28 u29 u30 u31 u32 u33 u34 u35 u36 u37 u38 u39 u40 u41 u42 u43 u44 u45 u46 u47 u48 u49 u50 u51 u52 u53 u54 u55 u56 u57 u58 u59 u60 u61 u62 u63 u64 u65 u66 u67 u68 u69 u70 u71 u72 u73 u74 u75 u76 u77 u78 u79 u80 u81 u82 u83 u84 u85 u86 u87 u88 u89 u90 u91 u92 u93 u94 u95 u96 u97 u98 u99 u100 u101 u102 u103 u104 u105 u106 u107 u108 u109 u110 u111 u112 u113 u114 : Value) : Act :=
  { tmps := #[.slice va ss.length vc, stV k sa sb, heV a vs.length ca b zs.length cb, undef, .pointer (some ⟨B, 0, none⟩), .pointer (some ⟨B + 1, 0, none⟩), .bool false, u7, .pointer (some ⟨RP, 0, none⟩), .int .i64 c9, u10, u11, .pointer (some ⟨RG, 0, none⟩), .int .i64 c9, u14, .int .i64 m15, u16, .pointer (some ⟨R, 0, none⟩), .int .i64 c9, u19, u20, u21, u22, u23, u24, u25, u26, u27, u28, u29, u30, u31, u32, u33, u34, u35, u36, u37, u38, u39, u40, u41, u42, u43, u44, u45, u46, u47, u48, u49, u50, u51, u52, u53, u54, u55, u56, u57, u58, u59, u60, u61, u62, u63, u64, u65, u66, u67, u68, u69, u70, u71, u72, u73, u74, u75, u76, u77, u78, u79, u80, u81, u82, u83, u84, u85, u86, u87, u88, u89, u90, u91, u92, u93, u94, u95, u96, u97, u98, u99, u100, u101, u102, u103, u104, u105, u106, u107, u108, u109, u110, u111, u112, u113, u114, undef, undef, undef, undef, undef, undef, undef, undef, undef, undef, undef, undef, undef, undef, undef, undef, undef], defers := [] }
def After34 (va : Option Addr) (vc : Nat) (ss : List ByteArray) (k : Int) (sa sb : ByteArray) (a b : Option Addr) (ca cb : Nat) (vs zs : List Int) (B : Nat) (c9 : Int) (RP RG : Nat) (m15 : Int) (w0 : World) (ps qs : List Int) (e : Exit) (act : Act) (W : World) : Prop :=
  e = .normal ∧ ∃ R lo hi xa xca xb xcb u7 u10 u11 u14 u16 u19 u20 u21 u22 u23 u24 u25 u26 u27 u28 u29 u30 u31 u32 u33 u34 u35 u36 u37 u38 u39 u40 u41 u42 u43 u44 u45 u46 u47 u48 u49 u50 u51 u52 u53 u54 u55 u56 u57 u58 u59 u60 u61 u62 u63 u64 u65 u66 u67 u68 u69 u70 u71 u72 u73 u74 u75 u76 u77 u78 u79 u80 u81 u82 u83 u84 u85 u86 u87 u88 u89 u90 u91 u92 u93 u94 u95 u96 u97 u98 u99 u100 u101 u102 u103 u104 u105 u106 u107 u108 u109 u110 u111 u112 u113 u114, act = frame34 va vc ss k sa sb a b ca cb vs zs B c9 RP RG m15 R u7 u10 u11 u14 u16 u19 u20 u21 u22 u23 u24 u25 u26 u27 u28 u29 u30 u31 u32 u33 u34 u35 u36 u37 u38 u39 u40 u41 u42 u43 u44 u45 u46 u47 u48 u49 u50 u51 u52 u53 u54 u55 u56 u57 u58 u59 u60 u61 u62 u63 u64 u65 u66 u67 u68 u69 u70 u71 u72 u73 u74 u75 u76 u77 u78 u79 u80 u81 u82 u83 u84 u85 u86 u87 u88 u89 u90 u91 u92 u93 u94 u95 u96 u97 u98 u99 u100 u101 u102 u103 u104 u105 u106 u107 u108 u109 u110 u111 u112 u113 u114 ∧ Ans w0.heap.size W.heap.size W R lo hi xa xca xb xcb ps qs ∧ Below w0.heap.size w0 W
theorem bx0_a (W : World) (t : TypeId) : (W.alloc (.cells #[.slice none 0 0, .slice none 0 0] t)).cell? ⟨W.heap.size, 0, none⟩ = some (.slice none 0 0) := (BoxL.new W [.slice none 0 0, .slice none 0 0] t).c 0 _ rfl
theorem bx1_a (W : World) (t : TypeId) : (W.alloc (.cells #[.slice none 0 0, .slice none 0 0] t)).cell? ⟨W.heap.size, 1, none⟩ = some (.slice none 0 0) := (BoxL.new W [.slice none 0 0, .slice none 0 0] t).c 1 _ rfl
theorem bxF_a (W : World) (t : TypeId) : ∀ o, (W.alloc (.cells #[.slice none 0 0, .slice none 0 0] t)).frozen? ⟨W.heap.size, o, none⟩ = false := (BoxL.new W [.slice none 0 0, .slice none 0 0] t).f
theorem bx0_b (W : World) (t : TypeId) : (W.drew.alloc (.cells #[.slice none 0 0, .slice none 0 0] t)).cell? ⟨W.heap.size, 0, none⟩ = some (.slice none 0 0) := bx0_a W.drew t
theorem bx1_b (W : World) (t : TypeId) : (W.drew.alloc (.cells #[.slice none 0 0, .slice none 0 0] t)).cell? ⟨W.heap.size, 1, none⟩ = some (.slice none 0 0) := bx1_a W.drew t
theorem bxF_b (W : World) (t : TypeId) : ∀ o, (W.drew.alloc (.cells #[.slice none 0 0, .slice none 0 0] t)).frozen? ⟨W.heap.size, o, none⟩ = false := bxF_a W.drew t
theorem bx0_c (W : World) (t : TypeId) : (W.alloc (.cells #[.slice none 0 0, .slice none 0 0] t)).drew.cell? ⟨W.heap.size, 0, none⟩ = some (.slice none 0 0) := bx0_a W t
theorem bx1_c (W : World) (t : TypeId) : (W.alloc (.cells #[.slice none 0 0, .slice none 0 0] t)).drew.cell? ⟨W.heap.size, 1, none⟩ = some (.slice none 0 0) := bx1_a W t
theorem bxF_c (W : World) (t : TypeId) : ∀ o, (W.alloc (.cells #[.slice none 0 0, .slice none 0 0] t)).drew.frozen? ⟨W.heap.size, o, none⟩ = false := bxF_a W t
theorem canon_lens (vs zs : List Int) : (canonVs vs zs).length ≤ vs.length ∧ (canonNs vs zs).length ≤ zs.length := by
  unfold canonVs canonNs
  split
  · exact ⟨by simp [canonV], by simp only [canonN, List.length_map]; exact (order_end vs zs).len⟩
  · simp
theorem exec_lens (ss : List ByteArray) (k : Int) (sa sb : ByteArray) (vs zs : List Int) : (execS ss k sa sb vs zs).2.1.length ≤ vs.length ∧ (execS ss k sa sb vs zs).2.2.length ≤ zs.length + 1 := by
  have h1 := doS_fine k (place ss sa).toNat (place ss sb).toNat vs zs
  unfold execS
  split
  · split
    · split
      · simp [badC]
      · exact ⟨Nat.le_trans (canon_lens _ _).1 h1.2.1, Nat.le_trans (canon_lens _ _).2 h1.2.2⟩
    · simp [badC]
  · simp [badC]
theorem execL {r : Act3} {c : Int} {ps qs : List Int} {w : World} {e : Ending} {w' : World} (h : ExecEnd r w e w') (hr : r = (c, ps, qs)) : ExecL c ps qs w e w' := by
  subst hr
  obtain ⟨a, ca, b, cb, h1, h2, h3⟩ := h
  exact ⟨_, a, ca, b, cb, Nat.le_refl _, h1, h2, h3⟩

set_option maxRecDepth 100000 in
set_option maxHeartbeats 16000000 in
theorem walk (va : Option Addr) (vc : Nat) (ss : List ByteArray) (k : Int) (sa sb : ByteArray) (a : Option Addr) (ca : Nat) (vs : List Int) (b : Option Addr) (cb : Nat) (zs : List Int) (w : World) (hlen : ss.length ≤ maxLen) (hws : ∀ s ∈ ss, s.size ≤ maxLen) (hrow : Row w w.heap.size va (strVals ss))
    (_hk : -9223372036854775808 ≤ k ∧ k ≤ 9223372036854775807) (ha : sa.size ≤ maxLen) (hb : sb.size ≤ maxLen) (hok : HeapOk w a b vs zs) (hT : HasNamesTable w) :
    Calls Tryd.prog 4 #[.slice va ss.length vc, stV k sa sb, heV a vs.length ca b zs.length cb] w (TrueEnd w) := by
  have HARG := Lib.hid (show ∀ W, Below w.heap.size w W → Row W W.heap.size va (strVals ss) ∧ HeapAt W a b vs zs ∧ HasNamesTable W from fun W h => ⟨(hrow.below h).grow h.size, hok.at_.below h (Nat.le_refl _), hT.keeps h⟩)
  obtain ⟨W0, hW0, hb0, bs0, bh0⟩ := two_boxL w [.int .i64 k, .string sa, .string sb] [.slice a vs.length ca, .slice b zs.length cb] 41 42
  replace hW0 : ((w.alloc (.cells #[.int .i64 k, .string sa, .string sb] 41)).alloc (.cells #[.slice a vs.length ca, .slice b zs.length cb] 42)) = W0 := hW0
  have hK0 : Kept w k sa sb (.slice a vs.length ca) (.slice b zs.length cb) W0 := ⟨bs0, bh0, hb0⟩
  have hlv := hok.lv
  have hlz := hok.lz
  clear bs0 bh0 hb0 hT hrow hok
  go_enter Tryd.func4, Tryd.ntmps4
  go_wp2_with fail
  clear hW0
  refine (szStrs va vc ss 1048576 _ (by omega) hlen hws (HARG.out _ hK0.b).1).mono ?_
  rintro e w1 ⟨r, rfl, rfl, hr, hok1⟩
  by_cases hneg : r < 0
  · have HB := Lib.hid hK0.b
    clear hK0
    go_wp2
    go_ret
    exact ⟨rfl, HB.out⟩
  · have hsum := hok1 (by omega)
    obtain ⟨r', rfl⟩ : ∃ r' : Nat, r = (r' : Int) := ⟨r.toNat, by omega⟩
    obtain ⟨⟨s0, s1, s2⟩, _, _⟩ := hK0.five
    go_wp2_with fail
    refine (szStmt k sa sb r' _ (by omega) ha hb).mono ?_
    rintro e w2 ⟨r2, rfl, hb2, hr2, hok2⟩
    have hK2 := hK0.below hb2
    clear s0 s1 s2 hK0 hb2
    by_cases hneg2 : r2 < 0
    · have HB := Lib.hid hK2.b
      clear hK2
      go_wp2
      go_ret
      exact ⟨rfl, HB.out⟩
    · have hsum2 := hok2 (by omega)
      obtain ⟨r2', rfl⟩ : ∃ r2' : Nat, r2 = (r2' : Int) := ⟨r2.toNat, by omega⟩
      obtain ⟨_, q0, q1⟩ := hK2.five
      go_wp2_with fail
      refine (szHeap a b ca cb vs.length zs.length r2' _ (by omega) hlv hlz).mono ?_
      rintro e w3 ⟨r3, rfl, hb3, hr3, hok3⟩
      have hK3 := hK2.below hb3
      clear q0 q1 hK2 hb3
      by_cases hneg3 : r3 < 0
      · have HB := Lib.hid hK3.b
        clear hK3
        go_wp2
        go_ret
        exact ⟨rfl, HB.out⟩
      · have hsum3 := hok3 (by omega)
        have hnat1 : ss.length ≤ 1048576 := by omega
        have hnat2 : vs.length + zs.length ≤ 1048576 := by omega
        obtain ⟨c9, ps, qs, hexec⟩ : ∃ c ps qs, execS ss k sa sb vs zs = (c, ps, qs) := ⟨_, _, _, rfl⟩
        have hel := exec_lens ss k sa sb vs zs
        rw [hexec] at hel
        have hpl : ps.length ≤ 1048576 := by have := hel.1; simp at this; omega
        have hql : qs.length ≤ 1048577 := by have := hel.2; simp at this; omega
        have HSX := Lib.hid (show ∀ (o : Nat) (W4 W6 Y : World) (p q : Option Addr) (lo hi : Nat), W4.ownsRow o 9 1 (.slice (some ⟨o, 0, none⟩) ss.length ss.length) ss.length (strVals ss) → Below W4.heap.size W4 Y → HeapIn lo hi W6 p vs.length q zs.length (intVals vs) (intVals zs) → Below W6.heap.size W6 Y → Below w.heap.size w Y → Calls Tryd.prog 8 #[.slice (some ⟨o, 0, none⟩) ss.length ss.length, stV k sa sb, heV p vs.length vs.length q zs.length zs.length] Y (ExecL c9 ps qs Y) from fun o W4 W6 Y p q lo hi hx h4 hin h6 hY =>
          (specExec _ _ ss k sa sb p q _ _ vs zs Y hlen hws (((Row.owned hx).below h4).grow h4.size) hlv hlz (hin.rows.below h6 (Nat.le_refl _)) (nil_len hin.rows).1 (nil_len hin.rows).2).mono fun _ _ he => execL he hexec)
        have HIX := Lib.hid (show ∀ (o : Nat) (W4 W6 Y : World) (p q : Option Addr) (lo hi : Nat), W4.ownsRow o 9 1 (.slice (some ⟨o, 0, none⟩) ss.length ss.length) ss.length (strVals ss) → Below W4.heap.size W4 Y → HeapIn lo hi W6 p vs.length q zs.length (intVals vs) (intVals zs) → Below W6.heap.size W6 Y → Below w.heap.size w Y → Calls Tryd.prog 7 #[.slice (some ⟨o, 0, none⟩) ss.length ss.length, stV k sa sb, heV p vs.length vs.length q zs.length zs.length] Y (ExecL c9 ps qs Y) from fun o W4 W6 Y p q lo hi hx h4 hin h6 hY =>
          (implExec _ _ ss k sa sb p q _ _ vs zs Y hlen hws (((Row.owned hx).below h4).grow h4.size) hlv hlz (hin.rows.below h6 (Nat.le_refl _)) (HARG.out _ hY).2.2).mono fun _ _ he => execL he hexec)
        clear hexec hel hsum hsum2 hsum3 hok1 hok2 hok3 hr hr2 hr3 hneg hneg2 hlv hlz
        have hl3 := hK3.lt
        have HK3 := Lib.hid hK3
        clear hK3
        go_wp2
        refine Code.wp_mono (Q := After11 va vc ss k sa sb a b ca cb vs zs w.heap.size c9 w3 ps qs) ?tail11 ?reg11
        case' reg11 =>
          have HK := Lib.hid (fun W (hb : Below w3.heap.size w3 W) => HK3.out.below hb)
          go_region_held3 (fun W => (W.cell? ⟨w.heap.size, 0, none⟩ = some (.int .i64 k) ∧ W.cell? ⟨w.heap.size, 1, none⟩ = some (.string sa) ∧ W.cell? ⟨w.heap.size, 2, none⟩ = some (.string sb)) ∧ (W.cell? ⟨w.heap.size + 1, 0, none⟩ = some (.slice a vs.length ca) ∧ W.cell? ⟨w.heap.size + 1, 1, none⟩ = some (.slice b zs.length cb)))
            (first | (refine (HK.out _ ?_).five; (repeat (first | with_reducible exact Below.refl _ _ | with_reducible assumption | with_reducible refine Below.drew ?_ | with_reducible refine Below.setCell ?_ (by go_size) _ | with_reducible refine Below.alloc ?_ (by go_size) _)); done))
            (first
              | (go_at_call 20; (with_reducible refine (toStrsL va vc ss _ (by omega) (HARG.out _ (HK.out _ (by repeat (first | with_reducible exact Below.refl _ _ | with_reducible assumption | with_reducible refine Below.drew ?_ | with_reducible refine Below.setCell ?_ (by go_size) _ | with_reducible refine Below.alloc ?_ (by go_size) _))).b).1).mono ?_); rintro e w4 ⟨o, ho4, rfl, hx4, hb4⟩; have hz4 := hb4.size; (try simp [World.size_alloc, World.size_drew] at hz4); (try (refine keep_cell (p := ⟨w3.heap.size, 0, none⟩) (x := .slice none 0 0) hb4 ?_ ?_ (fun za_0_1 => ?_); (focus (first | go_size | omega)); (focus (first | with_reducible exact bx0_a _ _ | with_reducible exact bx0_b _ _ | with_reducible exact bx0_c _ _)))); (try (refine keep_frozen (g := w3.heap.size) hb4 ?_ ?_ (fun zf_0_1 => ?_); (focus (first | go_size | omega)); (focus (first | with_reducible exact bxF_a _ _ | with_reducible exact bxF_b _ _ | with_reducible exact bxF_c _ _)))); (try (refine keep_cell (p := ⟨w3.heap.size, 1, none⟩) (x := .slice none 0 0) hb4 ?_ ?_ (fun zb_0_1 => ?_); (focus (first | go_size | omega)); (focus (first | with_reducible exact bx1_a _ _ | with_reducible exact bx1_b _ _ | with_reducible exact bx1_c _ _)))); have H4 : Below w3.heap.size w3 w4 := Below.trans (by repeat (first | with_reducible exact Below.refl _ _ | with_reducible assumption | with_reducible refine Below.drew ?_ | with_reducible refine Below.setCell ?_ (by go_size) _ | with_reducible refine Below.alloc ?_ (by go_size) _)) (hb4.mono (by go_size)))
              | (go_at_call 21; (with_reducible refine (lawToStmt k sa sb _).mono ?_); rintro e w5 ⟨rfl, hb5⟩; have hz5 := hb5.size; (try simp [World.size_alloc] at hz5); (try (refine keep_cell (p := ⟨w3.heap.size, 0, none⟩) (x := .slice none 0 0) hb5 ?_ ?_ (fun za_0_2 => ?_); (focus (first | go_size | omega)); (focus (first | with_reducible exact za_0_1 | with_reducible exact bx0_a _ _ | with_reducible exact bx0_b _ _ | with_reducible exact bx0_c _ _)))); (try (refine keep_frozen (g := w3.heap.size) hb5 ?_ ?_ (fun zf_0_2 => ?_); (focus (first | go_size | omega)); (focus (first | with_reducible exact zf_0_1 | with_reducible exact bxF_a _ _ | with_reducible exact bxF_b _ _ | with_reducible exact bxF_c _ _)))); (try (refine keep_cell (p := ⟨w3.heap.size, 1, none⟩) (x := .slice none 0 0) hb5 ?_ ?_ (fun zb_0_2 => ?_); (focus (first | go_size | omega)); (focus (first | with_reducible exact zb_0_1 | with_reducible exact bx1_a _ _ | with_reducible exact bx1_b _ _ | with_reducible exact bx1_c _ _)))); (try (refine keep_cell (p := ⟨w4.heap.size, 0, none⟩) (x := .slice none 0 0) hb5 ?_ ?_ (fun za_1_2 => ?_); (focus (first | go_size | omega)); (focus (first | with_reducible exact bx0_a _ _ | with_reducible exact bx0_b _ _ | with_reducible exact bx0_c _ _)))); (try (refine keep_frozen (g := w4.heap.size) hb5 ?_ ?_ (fun zf_1_2 => ?_); (focus (first | go_size | omega)); (focus (first | with_reducible exact bxF_a _ _ | with_reducible exact bxF_b _ _ | with_reducible exact bxF_c _ _)))); (try (refine keep_cell (p := ⟨w4.heap.size, 1, none⟩) (x := .slice none 0 0) hb5 ?_ ?_ (fun zb_1_2 => ?_); (focus (first | go_size | omega)); (focus (first | with_reducible exact bx1_a _ _ | with_reducible exact bx1_b _ _ | with_reducible exact bx1_c _ _)))); have H45 : Below w4.heap.size w4 w5 := Below.trans (by repeat (first | with_reducible exact Below.refl _ _ | with_reducible assumption | with_reducible refine Below.drew ?_ | with_reducible refine Below.setCell ?_ (by go_size) _ | with_reducible refine Below.alloc ?_ (by go_size) _)) (hb5.mono (by go_size)); have H5 := H4.trans (H45.mono H4.size))
              | (go_at_call 22; (with_reducible refine (toHeap a b ca cb vs zs _ (by omega) (by omega) (HARG.out _ (HK.out _ (by repeat (first | with_reducible exact Below.refl _ _ | with_reducible assumption | with_reducible refine Below.drew ?_ | with_reducible refine Below.setCell ?_ (by go_size) _ | with_reducible refine Below.alloc ?_ (by go_size) _))).b).2.1).mono ?_); rintro e w6 ⟨p, q, rfl, hin6, hb6⟩; have hz6 := hb6.size; (try simp [World.size_alloc] at hz6); (try (refine keep_cell (p := ⟨w3.heap.size, 0, none⟩) (x := .slice none 0 0) hb6 ?_ ?_ (fun za_0_3 => ?_); (focus (first | go_size | omega)); (focus (first | with_reducible exact za_0_2 | with_reducible exact bx0_a _ _ | with_reducible exact bx0_b _ _ | with_reducible exact bx0_c _ _)))); (try (refine keep_frozen (g := w3.heap.size) hb6 ?_ ?_ (fun zf_0_3 => ?_); (focus (first | go_size | omega)); (focus (first | with_reducible exact zf_0_2 | with_reducible exact bxF_a _ _ | with_reducible exact bxF_b _ _ | with_reducible exact bxF_c _ _)))); (try (refine keep_cell (p := ⟨w3.heap.size, 1, none⟩) (x := .slice none 0 0) hb6 ?_ ?_ (fun zb_0_3 => ?_); (focus (first | go_size | omega)); (focus (first | with_reducible exact zb_0_2 | with_reducible exact bx1_a _ _ | with_reducible exact bx1_b _ _ | with_reducible exact bx1_c _ _)))); (try (refine keep_cell (p := ⟨w4.heap.size, 0, none⟩) (x := .slice none 0 0) hb6 ?_ ?_ (fun za_1_3 => ?_); (focus (first | go_size | omega)); (focus (first | with_reducible exact za_1_2 | with_reducible exact bx0_a _ _ | with_reducible exact bx0_b _ _ | with_reducible exact bx0_c _ _)))); (try (refine keep_frozen (g := w4.heap.size) hb6 ?_ ?_ (fun zf_1_3 => ?_); (focus (first | go_size | omega)); (focus (first | with_reducible exact zf_1_2 | with_reducible exact bxF_a _ _ | with_reducible exact bxF_b _ _ | with_reducible exact bxF_c _ _)))); (try (refine keep_cell (p := ⟨w4.heap.size, 1, none⟩) (x := .slice none 0 0) hb6 ?_ ?_ (fun zb_1_3 => ?_); (focus (first | go_size | omega)); (focus (first | with_reducible exact zb_1_2 | with_reducible exact bx1_a _ _ | with_reducible exact bx1_b _ _ | with_reducible exact bx1_c _ _)))); (try (refine keep_cell (p := ⟨w5.heap.size, 0, none⟩) (x := .slice none 0 0) hb6 ?_ ?_ (fun za_2_3 => ?_); (focus (first | go_size | omega)); (focus (first | with_reducible exact bx0_a _ _ | with_reducible exact bx0_b _ _ | with_reducible exact bx0_c _ _)))); (try (refine keep_frozen (g := w5.heap.size) hb6 ?_ ?_ (fun zf_2_3 => ?_); (focus (first | go_size | omega)); (focus (first | with_reducible exact bxF_a _ _ | with_reducible exact bxF_b _ _ | with_reducible exact bxF_c _ _)))); (try (refine keep_cell (p := ⟨w5.heap.size, 1, none⟩) (x := .slice none 0 0) hb6 ?_ ?_ (fun zb_2_3 => ?_); (focus (first | go_size | omega)); (focus (first | with_reducible exact bx1_a _ _ | with_reducible exact bx1_b _ _ | with_reducible exact bx1_c _ _)))); have H46 : Below w4.heap.size w4 w6 := Below.trans (by repeat (first | with_reducible exact Below.refl _ _ | with_reducible assumption | with_reducible refine Below.drew ?_ | with_reducible refine Below.setCell ?_ (by go_size) _ | with_reducible refine Below.alloc ?_ (by go_size) _)) (hb6.mono (by go_size)); have H6 := H4.trans (H46.mono H4.size))
              | (go_at_call 8; (refine Calls.mono (HSX.out o w4 w6 _ p q _ _ hx4 ?_ hin6 ?_ ?_) ?_); (focus ((repeat (first | with_reducible exact Below.refl _ _ | with_reducible assumption | with_reducible refine Below.drew ?_ | with_reducible refine Below.setCell ?_ (by go_size) _ | with_reducible refine Below.alloc ?_ (by go_size) _)); done)); (focus ((repeat (first | with_reducible exact Below.refl _ _ | with_reducible assumption | with_reducible refine Below.drew ?_ | with_reducible refine Below.setCell ?_ (by go_size) _ | with_reducible refine Below.alloc ?_ (by go_size) _)); done)); (focus (refine (HK.out _ ?_).b; (repeat (first | with_reducible exact Below.refl _ _ | with_reducible assumption | with_reducible refine Below.drew ?_ | with_reducible refine Below.setCell ?_ (by go_size) _ | with_reducible refine Below.alloc ?_ (by go_size) _)); done)); rintro e w7 ⟨lo9, xa, xca, xb, xcb, hlo9, rfl, hin9, hb7⟩; (try simp [World.size_alloc] at hlo9); have hz7 := hb7.size; (try simp [World.size_alloc] at hz7); (try (refine keep_cell (p := ⟨w3.heap.size, 0, none⟩) (x := .slice none 0 0) hb7 ?_ ?_ (fun za_0_4 => ?_); (focus (first | go_size | omega)); (focus (first | with_reducible exact za_0_3 | with_reducible exact bx0_a _ _ | with_reducible exact bx0_b _ _ | with_reducible exact bx0_c _ _)))); (try (refine keep_frozen (g := w3.heap.size) hb7 ?_ ?_ (fun zf_0_4 => ?_); (focus (first | go_size | omega)); (focus (first | with_reducible exact zf_0_3 | with_reducible exact bxF_a _ _ | with_reducible exact bxF_b _ _ | with_reducible exact bxF_c _ _)))); (try (refine keep_cell (p := ⟨w3.heap.size, 1, none⟩) (x := .slice none 0 0) hb7 ?_ ?_ (fun zb_0_4 => ?_); (focus (first | go_size | omega)); (focus (first | with_reducible exact zb_0_3 | with_reducible exact bx1_a _ _ | with_reducible exact bx1_b _ _ | with_reducible exact bx1_c _ _)))); (try (refine keep_cell (p := ⟨w4.heap.size, 0, none⟩) (x := .slice none 0 0) hb7 ?_ ?_ (fun za_1_4 => ?_); (focus (first | go_size | omega)); (focus (first | with_reducible exact za_1_3 | with_reducible exact bx0_a _ _ | with_reducible exact bx0_b _ _ | with_reducible exact bx0_c _ _)))); (try (refine keep_frozen (g := w4.heap.size) hb7 ?_ ?_ (fun zf_1_4 => ?_); (focus (first | go_size | omega)); (focus (first | with_reducible exact zf_1_3 | with_reducible exact bxF_a _ _ | with_reducible exact bxF_b _ _ | with_reducible exact bxF_c _ _)))); (try (refine keep_cell (p := ⟨w4.heap.size, 1, none⟩) (x := .slice none 0 0) hb7 ?_ ?_ (fun zb_1_4 => ?_); (focus (first | go_size | omega)); (focus (first | with_reducible exact zb_1_3 | with_reducible exact bx1_a _ _ | with_reducible exact bx1_b _ _ | with_reducible exact bx1_c _ _)))); (try (refine keep_cell (p := ⟨w5.heap.size, 0, none⟩) (x := .slice none 0 0) hb7 ?_ ?_ (fun za_2_4 => ?_); (focus (first | go_size | omega)); (focus (first | with_reducible exact za_2_3 | with_reducible exact bx0_a _ _ | with_reducible exact bx0_b _ _ | with_reducible exact bx0_c _ _)))); (try (refine keep_frozen (g := w5.heap.size) hb7 ?_ ?_ (fun zf_2_4 => ?_); (focus (first | go_size | omega)); (focus (first | with_reducible exact zf_2_3 | with_reducible exact bxF_a _ _ | with_reducible exact bxF_b _ _ | with_reducible exact bxF_c _ _)))); (try (refine keep_cell (p := ⟨w5.heap.size, 1, none⟩) (x := .slice none 0 0) hb7 ?_ ?_ (fun zb_2_4 => ?_); (focus (first | go_size | omega)); (focus (first | with_reducible exact zb_2_3 | with_reducible exact bx1_a _ _ | with_reducible exact bx1_b _ _ | with_reducible exact bx1_c _ _)))); (try (refine keep_cell (p := ⟨w6.heap.size, 0, none⟩) (x := .slice none 0 0) hb7 ?_ ?_ (fun za_3_4 => ?_); (focus (first | go_size | omega)); (focus (first | with_reducible exact bx0_a _ _ | with_reducible exact bx0_b _ _ | with_reducible exact bx0_c _ _)))); (try (refine keep_frozen (g := w6.heap.size) hb7 ?_ ?_ (fun zf_3_4 => ?_); (focus (first | go_size | omega)); (focus (first | with_reducible exact bxF_a _ _ | with_reducible exact bxF_b _ _ | with_reducible exact bxF_c _ _)))); (try (refine keep_cell (p := ⟨w6.heap.size, 1, none⟩) (x := .slice none 0 0) hb7 ?_ ?_ (fun zb_3_4 => ?_); (focus (first | go_size | omega)); (focus (first | with_reducible exact bx1_a _ _ | with_reducible exact bx1_b _ _ | with_reducible exact bx1_c _ _)))); have H9 : Below w3.heap.size w3 w7 := Below.trans (by repeat (first | with_reducible exact Below.refl _ _ | with_reducible assumption | with_reducible refine Below.drew ?_ | with_reducible refine Below.setCell ?_ (by go_size) _ | with_reducible refine Below.alloc ?_ (by go_size) _)) (hb7.mono (by go_size))))
          all_goals
            have hbl9 := hin9.blocks
            try simp only at hbl9
            first
              | (have box9 : BoxL w7 w3.heap.size [.slice none 0 0, .slice none 0 0] := box_of (by assumption) (by go_size) (by assumption) (by assumption)
                 have hneR : ∀ k, blocksH xa xb ps.length xca qs.length xcb k → k ≠ w3.heap.size := fun k hk e => by have := hbl9 k hk; omega
                 have hinR := ((hin9.setNot (i := 0) (u := .slice xa ps.length xca) hneR).setNot (i := 1) (u := .slice xb qs.length xcb) hneR)
                 have boxR := (box9.set 0 (.slice xa ps.length xca)).set 1 (.slice xb qs.length xcb)
                 have hBR : Below w3.heap.size w3 ((w7.setCell ⟨w3.heap.size, 0, none⟩ (.slice xa ps.length xca)).setCell ⟨w3.heap.size, 1, none⟩ (.slice xb qs.length xcb)) := (H9.setCell (by show w3.heap.size ≤ w3.heap.size; omega) _).setCell (by show w3.heap.size ≤ w3.heap.size; omega) _
                 have hsR : ((w7.setCell ⟨w3.heap.size, 0, none⟩ (.slice xa ps.length xca)).setCell ⟨w3.heap.size, 1, none⟩ (.slice xb qs.length xcb)).heap.size = w7.heap.size := by simp
                 exact ⟨rfl, _, lo9, w7.heap.size, xa, xca, xb, xcb, _, _, _, _, _, _, _, _, _, _, _, _, _, _, _, _, _, _, _, _, _, _, _, _, _, _, rfl, ⟨boxR, hinR, .inl (by omega), by omega, by omega, by omega, by omega, by omega⟩, hBR⟩)
              | (have box9 : BoxL w7 w4.heap.size [.slice none 0 0, .slice none 0 0] := box_of (by assumption) (by go_size) (by assumption) (by assumption)
                 have hneR : ∀ k, blocksH xa xb ps.length xca qs.length xcb k → k ≠ w4.heap.size := fun k hk e => by have := hbl9 k hk; omega
                 have hinR := ((hin9.setNot (i := 0) (u := .slice xa ps.length xca) hneR).setNot (i := 1) (u := .slice xb qs.length xcb) hneR)
                 have boxR := (box9.set 0 (.slice xa ps.length xca)).set 1 (.slice xb qs.length xcb)
                 have hBR : Below w3.heap.size w3 ((w7.setCell ⟨w4.heap.size, 0, none⟩ (.slice xa ps.length xca)).setCell ⟨w4.heap.size, 1, none⟩ (.slice xb qs.length xcb)) := (H9.setCell (by show w3.heap.size ≤ w4.heap.size; omega) _).setCell (by show w3.heap.size ≤ w4.heap.size; omega) _
                 have hsR : ((w7.setCell ⟨w4.heap.size, 0, none⟩ (.slice xa ps.length xca)).setCell ⟨w4.heap.size, 1, none⟩ (.slice xb qs.length xcb)).heap.size = w7.heap.size := by simp
                 exact ⟨rfl, _, lo9, w7.heap.size, xa, xca, xb, xcb, _, _, _, _, _, _, _, _, _, _, _, _, _, _, _, _, _, _, _, _, _, _, _, _, _, _, rfl, ⟨boxR, hinR, .inl (by omega), by omega, by omega, by omega, by omega, by omega⟩, hBR⟩)
              | (have box9 : BoxL w7 w5.heap.size [.slice none 0 0, .slice none 0 0] := box_of (by assumption) (by go_size) (by assumption) (by assumption)
                 have hneR : ∀ k, blocksH xa xb ps.length xca qs.length xcb k → k ≠ w5.heap.size := fun k hk e => by have := hbl9 k hk; omega
                 have hinR := ((hin9.setNot (i := 0) (u := .slice xa ps.length xca) hneR).setNot (i := 1) (u := .slice xb qs.length xcb) hneR)
                 have boxR := (box9.set 0 (.slice xa ps.length xca)).set 1 (.slice xb qs.length xcb)
                 have hBR : Below w3.heap.size w3 ((w7.setCell ⟨w5.heap.size, 0, none⟩ (.slice xa ps.length xca)).setCell ⟨w5.heap.size, 1, none⟩ (.slice xb qs.length xcb)) := (H9.setCell (by show w3.heap.size ≤ w5.heap.size; omega) _).setCell (by show w3.heap.size ≤ w5.heap.size; omega) _
                 have hsR : ((w7.setCell ⟨w5.heap.size, 0, none⟩ (.slice xa ps.length xca)).setCell ⟨w5.heap.size, 1, none⟩ (.slice xb qs.length xcb)).heap.size = w7.heap.size := by simp
                 exact ⟨rfl, _, lo9, w7.heap.size, xa, xca, xb, xcb, _, _, _, _, _, _, _, _, _, _, _, _, _, _, _, _, _, _, _, _, _, _, _, _, _, _, rfl, ⟨boxR, hinR, .inl (by omega), by omega, by omega, by omega, by omega, by omega⟩, hBR⟩)
              | (have box9 : BoxL w7 w6.heap.size [.slice none 0 0, .slice none 0 0] := box_of (by assumption) (by go_size) (by assumption) (by assumption)
                 have hneR : ∀ k, blocksH xa xb ps.length xca qs.length xcb k → k ≠ w6.heap.size := fun k hk e => by have := hbl9 k hk; omega
                 have hinR := ((hin9.setNot (i := 0) (u := .slice xa ps.length xca) hneR).setNot (i := 1) (u := .slice xb qs.length xcb) hneR)
                 have boxR := (box9.set 0 (.slice xa ps.length xca)).set 1 (.slice xb qs.length xcb)
                 have hBR : Below w3.heap.size w3 ((w7.setCell ⟨w6.heap.size, 0, none⟩ (.slice xa ps.length xca)).setCell ⟨w6.heap.size, 1, none⟩ (.slice xb qs.length xcb)) := (H9.setCell (by show w3.heap.size ≤ w6.heap.size; omega) _).setCell (by show w3.heap.size ≤ w6.heap.size; omega) _
                 have hsR : ((w7.setCell ⟨w6.heap.size, 0, none⟩ (.slice xa ps.length xca)).setCell ⟨w6.heap.size, 1, none⟩ (.slice xb qs.length xcb)).heap.size = w7.heap.size := by simp
                 exact ⟨rfl, _, lo9, w7.heap.size, xa, xca, xb, xcb, _, _, _, _, _, _, _, _, _, _, _, _, _, _, _, _, _, _, _, _, _, _, _, _, _, _, rfl, ⟨boxR, hinR, .inl (by omega), by omega, by omega, by omega, by omega, by omega⟩, hBR⟩)
              | (have hal := (Below.refl w7.heap.size w7).alloc (Nat.le_refl _) (.cells #[.slice xa ps.length xca, .slice xb qs.length xcb] 29)
                 have boxR : BoxL (w7.alloc (.cells #[.slice xa ps.length xca, .slice xb qs.length xcb] 29)) w7.heap.size [.slice xa ps.length xca, .slice xb qs.length xcb] := BoxL.new w7 _ _
                 have hinR := hin9.below hal
                 have hBR := H9.trans (hal.mono H9.size)
                 have hsR : (w7.alloc (.cells #[.slice xa ps.length xca, .slice xb qs.length xcb] 29)).heap.size = w7.heap.size + 1 := by simp
                 exact ⟨rfl, _, lo9, w7.heap.size, xa, xca, xb, xcb, _, _, _, _, _, _, _, _, _, _, _, _, _, _, _, _, _, _, _, _, _, _, _, _, _, _, rfl, ⟨boxR, hinR, .inr (Nat.le_refl _), by omega, by omega, by omega, by omega, by omega⟩, hBR⟩)
        case' tail11 =>
          rintro e act W11 ⟨rfl, RP, lP, hP, pa, pca, pb, pcb, u7, u19, u20, u21, u22, u23, u24, u25, u26, u27, u28, u29, u30, u31, u32, u33, u34, u35, u36, u37, u38, u39, u40, u41, u42, u43, rfl, hPs, hb11⟩
          unfold frame11
          have HK11 := Lib.hid (HK3.out.below hb11)
          have HP11 := Lib.hid hPs
          have hT11 := hPs.top
          have h311 : w3.heap.size ≤ W11.heap.size := hb11.size
          clear hPs hb11
          go_wp2_with fail
          refine (toStrsL va vc ss _ (by omega) (HARG.out _ HK11.out.b).1).mono ?_
          rintro e w12 ⟨X, hX, rfl, hx12, hb12⟩
          have HK12 := Lib.hid (HK11.out.below hb12)
          have HP12 := Lib.hid (HP11.out.below hb12)
          have HX12 := Lib.hid hx12
          have hX2 : X < w12.heap.size := (hx12.lt X rfl).2
          obtain ⟨_, q0, q1⟩ := HK12.out.five
          clear hx12 hb12
          go_wp2_with fail
          refine (toHeap a b ca cb vs zs _ (by omega) (by omega) (HARG.out _ HK12.out.b).2.1).mono ?_
          rintro e w13 ⟨p, q, rfl, hin13, hb13⟩
          have hz13 : w12.heap.size ≤ w13.heap.size := hb13.size
          have hbx := BoxL.new w13 [.slice p vs.length vs.length, .slice q zs.length zs.length] 29
          have hal := (Below.refl w13.heap.size w13).alloc (Nat.le_refl _) (.cells #[.slice p vs.length vs.length, .slice q zs.length zs.length] 29)
          have hs13 : (w13.alloc (.cells #[.slice p vs.length vs.length, .slice q zs.length zs.length] 29)).heap.size = w13.heap.size + 1 := by simp
          replace hbx : BoxL (w13.alloc (.cells #[.slice p vs.length vs.length, .slice q zs.length zs.length] 29)) w13.heap.size [.slice p vs.length vs.length, .slice q zs.length zs.length] := hbx
          obtain ⟨W13, hW13⟩ : ∃ W, w13.alloc (.cells #[.slice p vs.length vs.length, .slice q zs.length zs.length] 29) = W := ⟨_, rfl⟩
          rw [hW13] at hbx hal hs13
          have hs13a : w13.heap.size < W13.heap.size := by omega
          clear hs13
          have HK13 := Lib.hid ((HK12.out.below hb13).below hal)
          have HP13 := Lib.hid ((HP12.out.below hb13).below hal)
          have HXX := Lib.hid (own_keeps (own_keeps HX12.out hb13) hal)
          have HIN := Lib.hid (hin13.below hal)
          have HBX := Lib.hid hbx
          clear q0 q1 hbx hal hin13 hb13 HK12 HP12 HX12
          go_wp2
          clear hW13
          refine Code.wp_mono (Q := After14 va vc ss k sa sb a b ca cb vs zs w.heap.size c9 RP X w13.heap.size W13 ps qs) ?tail14 ?reg14
          case' reg14 =>
            have HK := Lib.hid (fun W (hb : Below W13.heap.size W13 W) => HK13.out.below hb)
            have H14 := Lib.hid (show ∀ W, Below W13.heap.size W13 W → (W.cell? ⟨w.heap.size, 0, none⟩ = some (.int .i64 k) ∧ W.cell? ⟨w.heap.size, 1, none⟩ = some (.string sa) ∧ W.cell? ⟨w.heap.size, 2, none⟩ = some (.string sb)) ∧ (W.cell? ⟨w13.heap.size, 0, none⟩ = some (.slice p vs.length vs.length) ∧ W.cell? ⟨w13.heap.size, 1, none⟩ = some (.slice q zs.length zs.length)) from fun W hb => ⟨(HK13.out.below hb).five.1, (HBX.out.below hb).c 0 _ rfl, (HBX.out.below hb).c 1 _ rfl⟩)
            have hl13 := HK13.out.lt
            go_region_held3 (fun W => (W.cell? ⟨w.heap.size, 0, none⟩ = some (.int .i64 k) ∧ W.cell? ⟨w.heap.size, 1, none⟩ = some (.string sa) ∧ W.cell? ⟨w.heap.size, 2, none⟩ = some (.string sb)) ∧ (W.cell? ⟨w13.heap.size, 0, none⟩ = some (.slice p vs.length vs.length) ∧ W.cell? ⟨w13.heap.size, 1, none⟩ = some (.slice q zs.length zs.length)))
              (first | (refine H14.out _ ?_; (repeat (first | with_reducible exact Below.refl _ _ | with_reducible assumption | with_reducible refine Below.drew ?_ | with_reducible refine Below.setCell ?_ (by go_size) _ | with_reducible refine Below.alloc ?_ (by go_size) _)); done))
              (first
                | (go_at_call 21; (with_reducible refine (lawToStmt k sa sb _).mono ?_); rintro e v5 ⟨rfl, hb5⟩; have hz5 := hb5.size; (try simp [World.size_alloc, World.size_drew] at hz5); (try (refine keep_cell (p := ⟨W13.heap.size, 0, none⟩) (x := .slice none 0 0) hb5 ?_ ?_ (fun za_0_1 => ?_); (focus (first | go_size | omega)); (focus (first | with_reducible exact bx0_a _ _ | with_reducible exact bx0_b _ _ | with_reducible exact bx0_c _ _)))); (try (refine keep_frozen (g := W13.heap.size) hb5 ?_ ?_ (fun zf_0_1 => ?_); (focus (first | go_size | omega)); (focus (first | with_reducible exact bxF_a _ _ | with_reducible exact bxF_b _ _ | with_reducible exact bxF_c _ _)))); (try (refine keep_cell (p := ⟨W13.heap.size, 1, none⟩) (x := .slice none 0 0) hb5 ?_ ?_ (fun zb_0_1 => ?_); (focus (first | go_size | omega)); (focus (first | with_reducible exact bx1_a _ _ | with_reducible exact bx1_b _ _ | with_reducible exact bx1_c _ _)))); have H5 : Below W13.heap.size W13 v5 := Below.trans (by repeat (first | with_reducible exact Below.refl _ _ | with_reducible assumption | with_reducible refine Below.drew ?_ | with_reducible refine Below.setCell ?_ (by go_size) _ | with_reducible refine Below.alloc ?_ (by go_size) _)) (hb5.mono (by go_size)))
                | (go_at_call 7; (refine Calls.mono (HIX.out X W13 W13 _ p q _ _ HXX.out ?_ HIN.out ?_ ?_) ?_); (focus ((repeat (first | with_reducible exact Below.refl _ _ | with_reducible assumption | with_reducible refine Below.drew ?_ | with_reducible refine Below.setCell ?_ (by go_size) _ | with_reducible refine Below.alloc ?_ (by go_size) _)); done)); (focus ((repeat (first | with_reducible exact Below.refl _ _ | with_reducible assumption | with_reducible refine Below.drew ?_ | with_reducible refine Below.setCell ?_ (by go_size) _ | with_reducible refine Below.alloc ?_ (by go_size) _)); done)); (focus (refine (HK.out _ ?_).b; (repeat (first | with_reducible exact Below.refl _ _ | with_reducible assumption | with_reducible refine Below.drew ?_ | with_reducible refine Below.setCell ?_ (by go_size) _ | with_reducible refine Below.alloc ?_ (by go_size) _)); done)); rintro e v7 ⟨lo9, xa, xca, xb, xcb, hlo9, rfl, hin9, hb7⟩; (try simp [World.size_alloc] at hlo9); have hz7 := hb7.size; (try simp [World.size_alloc] at hz7); (try (refine keep_cell (p := ⟨W13.heap.size, 0, none⟩) (x := .slice none 0 0) hb7 ?_ ?_ (fun za_0_2 => ?_); (focus (first | go_size | omega)); (focus (first | with_reducible exact za_0_1 | with_reducible exact bx0_a _ _ | with_reducible exact bx0_b _ _ | with_reducible exact bx0_c _ _)))); (try (refine keep_frozen (g := W13.heap.size) hb7 ?_ ?_ (fun zf_0_2 => ?_); (focus (first | go_size | omega)); (focus (first | with_reducible exact zf_0_1 | with_reducible exact bxF_a _ _ | with_reducible exact bxF_b _ _ | with_reducible exact bxF_c _ _)))); (try (refine keep_cell (p := ⟨W13.heap.size, 1, none⟩) (x := .slice none 0 0) hb7 ?_ ?_ (fun zb_0_2 => ?_); (focus (first | go_size | omega)); (focus (first | with_reducible exact zb_0_1 | with_reducible exact bx1_a _ _ | with_reducible exact bx1_b _ _ | with_reducible exact bx1_c _ _)))); (try (refine keep_cell (p := ⟨v5.heap.size, 0, none⟩) (x := .slice none 0 0) hb7 ?_ ?_ (fun za_1_2 => ?_); (focus (first | go_size | omega)); (focus (first | with_reducible exact bx0_a _ _ | with_reducible exact bx0_b _ _ | with_reducible exact bx0_c _ _)))); (try (refine keep_frozen (g := v5.heap.size) hb7 ?_ ?_ (fun zf_1_2 => ?_); (focus (first | go_size | omega)); (focus (first | with_reducible exact bxF_a _ _ | with_reducible exact bxF_b _ _ | with_reducible exact bxF_c _ _)))); (try (refine keep_cell (p := ⟨v5.heap.size, 1, none⟩) (x := .slice none 0 0) hb7 ?_ ?_ (fun zb_1_2 => ?_); (focus (first | go_size | omega)); (focus (first | with_reducible exact bx1_a _ _ | with_reducible exact bx1_b _ _ | with_reducible exact bx1_c _ _)))); have H9 : Below W13.heap.size W13 v7 := Below.trans (by repeat (first | with_reducible exact Below.refl _ _ | with_reducible assumption | with_reducible refine Below.drew ?_ | with_reducible refine Below.setCell ?_ (by go_size) _ | with_reducible refine Below.alloc ?_ (by go_size) _)) (hb7.mono (by go_size))))
            all_goals
              have hbl9 := hin9.blocks
              try simp only at hbl9
              first
                | (have box9 : BoxL v7 W13.heap.size [.slice none 0 0, .slice none 0 0] := box_of (by assumption) (by go_size) (by assumption) (by assumption)
                   have hneR : ∀ k, blocksH xa xb ps.length xca qs.length xcb k → k ≠ W13.heap.size := fun k hk e => by have := hbl9 k hk; omega
                   have hinR := ((hin9.setNot (i := 0) (u := .slice xa ps.length xca) hneR).setNot (i := 1) (u := .slice xb qs.length xcb) hneR)
                   have boxR := (box9.set 0 (.slice xa ps.length xca)).set 1 (.slice xb qs.length xcb)
                   have hBR : Below W13.heap.size W13 ((v7.setCell ⟨W13.heap.size, 0, none⟩ (.slice xa ps.length xca)).setCell ⟨W13.heap.size, 1, none⟩ (.slice xb qs.length xcb)) := (H9.setCell (by show W13.heap.size ≤ W13.heap.size; omega) _).setCell (by show W13.heap.size ≤ W13.heap.size; omega) _
                   have hsR : ((v7.setCell ⟨W13.heap.size, 0, none⟩ (.slice xa ps.length xca)).setCell ⟨W13.heap.size, 1, none⟩ (.slice xb qs.length xcb)).heap.size = v7.heap.size := by simp
                   exact ⟨rfl, _, lo9, v7.heap.size, xa, xca, xb, xcb, _, _, _, _, _, _, _, _, _, _, _, _, _, _, _, _, _, _, _, _, _, _, _, _, _, _, _, _, _, _, _, _, _, _, _, _, _, _, rfl, ⟨boxR, hinR, .inl (by omega), by omega, by omega, by omega, by omega, by omega⟩, hBR⟩)
                | (have box9 : BoxL v7 v5.heap.size [.slice none 0 0, .slice none 0 0] := box_of (by assumption) (by go_size) (by assumption) (by assumption)
                   have hneR : ∀ k, blocksH xa xb ps.length xca qs.length xcb k → k ≠ v5.heap.size := fun k hk e => by have := hbl9 k hk; omega
                   have hinR := ((hin9.setNot (i := 0) (u := .slice xa ps.length xca) hneR).setNot (i := 1) (u := .slice xb qs.length xcb) hneR)
                   have boxR := (box9.set 0 (.slice xa ps.length xca)).set 1 (.slice xb qs.length xcb)
                   have hBR : Below W13.heap.size W13 ((v7.setCell ⟨v5.heap.size, 0, none⟩ (.slice xa ps.length xca)).setCell ⟨v5.heap.size, 1, none⟩ (.slice xb qs.length xcb)) := (H9.setCell (by show W13.heap.size ≤ v5.heap.size; omega) _).setCell (by show W13.heap.size ≤ v5.heap.size; omega) _
                   have hsR : ((v7.setCell ⟨v5.heap.size, 0, none⟩ (.slice xa ps.length xca)).setCell ⟨v5.heap.size, 1, none⟩ (.slice xb qs.length xcb)).heap.size = v7.heap.size := by simp
                   exact ⟨rfl, _, lo9, v7.heap.size, xa, xca, xb, xcb, _, _, _, _, _, _, _, _, _, _, _, _, _, _, _, _, _, _, _, _, _, _, _, _, _, _, _, _, _, _, _, _, _, _, _, _, _, _, rfl, ⟨boxR, hinR, .inl (by omega), by omega, by omega, by omega, by omega, by omega⟩, hBR⟩)
                | (have hal := (Below.refl v7.heap.size v7).alloc (Nat.le_refl _) (.cells #[.slice xa ps.length xca, .slice xb qs.length xcb] 29)
                   have boxR : BoxL (v7.alloc (.cells #[.slice xa ps.length xca, .slice xb qs.length xcb] 29)) v7.heap.size [.slice xa ps.length xca, .slice xb qs.length xcb] := BoxL.new v7 _ _
                   have hinR := hin9.below hal
                   have hBR := H9.trans (hal.mono H9.size)
                   have hsR : (v7.alloc (.cells #[.slice xa ps.length xca, .slice xb qs.length xcb] 29)).heap.size = v7.heap.size + 1 := by simp
                   exact ⟨rfl, _, lo9, v7.heap.size, xa, xca, xb, xcb, _, _, _, _, _, _, _, _, _, _, _, _, _, _, _, _, _, _, _, _, _, _, _, _, _, _, _, _, _, _, _, _, _, _, _, _, _, _, rfl, ⟨boxR, hinR, .inr (Nat.le_refl _), by omega, by omega, by omega, by omega, by omega⟩, hBR⟩)
          case' tail14 =>
            rintro e act W14 ⟨rfl, RG, lG, hG, ga, gca, gb, gcb, u7, u19, u20, u21, u22, u23, u24, u25, u26, u27, u28, u29, u30, u31, u32, u33, u34, u35, u36, u37, u38, u39, u40, u41, u42, u43, u44, u45, u46, u47, u48, u49, u50, u51, u52, u53, u54, u55, rfl, hGs, hb14⟩
            unfold frame14
            have HK14 := Lib.hid (HK13.out.below hb14)
            have HP14 := Lib.hid (HP13.out.below hb14)
            have HX14 := Lib.hid (own_keeps HXX.out hb14)
            have HIN14 := Lib.hid (HIN.out.below hb14)
            have HBX14 := Lib.hid (HBX.out.below hb14)
            have HG14 := Lib.hid hGs
            have hT14 := hGs.top
            have hz14 : W13.heap.size ≤ W14.heap.size := hb14.size
            have hlG := hGs.lo_
            have hg0 := hGs.box.c 0 _ rfl
            have hg1 := hGs.box.c 1 _ rfl
            have hp0 := HP14.out.box.c 0 _ rfl
            have hp1 := HP14.out.box.c 1 _ rfl
            clear hGs hb14 HK13 HP13 HXX HIN HBX
            go_wp2_with fail
            refine (eqHeaps _ _ _ _ _ _ _ _ ps qs _ (by unfold maxLen; omega) (by unfold maxLen; omega) HG14.out.hin.rows HP14.out.hin.rows).mono ?_
            rintro e w15 ⟨rfl, hb15⟩
            have HK15 := Lib.hid (HK14.out.below hb15)
            have HP15 := Lib.hid (HP14.out.below hb15)
            have HX15 := Lib.hid (own_keeps HX14.out hb15)
            have HIN15 := Lib.hid (HIN14.out.below hb15)
            have HBX15 := Lib.hid (HBX14.out.below hb15)
            have HG15 := Lib.hid (HG14.out.below hb15)
            clear hg0 hg1 hp0 hp1 hb15 HK14 HP14 HX14 HIN14 HBX14 HG14
            go_wp2_with fail
            refine (toStrsL va vc ss _ (by omega) (HARG.out _ HK15.out.b).1).mono ?_
            rintro e w16 ⟨o16, _, rfl, hx16, hb16⟩
            have hxr := ((Row.owned HX15.out).below hb16).grow hb16.size
            have HR16 := Lib.hid (And.intro hxr (Row.owned hx16))
            have HB16 := Lib.hid hb16
            clear hxr hx16 hb16
            go_wp2_with fail
            refine (eqStrs _ _ _ _ ss _ hlen HR16.out.1 HR16.out.2).mono ?_
            rintro e w17 ⟨n17, rfl, rfl⟩
            have hb17 : Below w15.heap.size w15 (w16.drewN n17) := below_draws HB16.out n17
            have HK17 := Lib.hid (HK15.out.below hb17)
            have HP17 := Lib.hid (HP15.out.below hb17)
            have HX17 := Lib.hid (own_keeps HX15.out hb17)
            have HIN17 := Lib.hid (HIN15.out.below hb17)
            have HBX17 := Lib.hid (HBX15.out.below hb17)
            have HG17 := Lib.hid (HG15.out.below hb17)
            clear hb17 HR16 HB16 HK15 HP15 HX15 HIN15 HBX15 HG15
            generalize w16.drewN n17 = w17 at *
            have H17 := Lib.hid (show ∀ W, Below w17.heap.size w17 W → (W.cell? ⟨w13.heap.size, 0, none⟩ = some (.slice p vs.length vs.length) ∧ W.cell? ⟨w13.heap.size, 1, none⟩ = some (.slice q zs.length zs.length)) ∧ (W.cell? ⟨w.heap.size + 1, 0, none⟩ = some (.slice a vs.length ca) ∧ W.cell? ⟨w.heap.size + 1, 1, none⟩ = some (.slice b zs.length cb)) from fun W hb => ⟨⟨(HBX17.out.below hb).c 0 _ rfl, (HBX17.out.below hb).c 1 _ rfl⟩, (HK17.out.below hb).five.2⟩)
            have hD : Below w17.heap.size w17 w17.drew := Below.drew (Below.refl _ _)
            go_wp2
            go_region_held3 (fun W => (W.cell? ⟨w13.heap.size, 0, none⟩ = some (.slice p vs.length vs.length) ∧ W.cell? ⟨w13.heap.size, 1, none⟩ = some (.slice q zs.length zs.length)) ∧ (W.cell? ⟨w.heap.size + 1, 0, none⟩ = some (.slice a vs.length ca) ∧ W.cell? ⟨w.heap.size + 1, 1, none⟩ = some (.slice b zs.length cb)))
              (first | exact H17.out _ hD | exact H17.out _ (Below.drew hD) | exact H17.out _ H7 | exact H17.out _ H8)
              (first
                | (go_at_call 22; (with_reducible refine (toHeap a b ca cb vs zs _ (by omega) (by omega) (HARG.out _ (HK17.out.below hD).b).2.1).mono ?_); rintro e w18 ⟨p7, q7, rfl, hin7, hb18⟩; have H7 := hD.trans (hb18.mono hD.size))
                | (go_at_call 23; (with_reducible refine (eqHeaps _ _ _ _ _ _ _ _ vs zs _ (by unfold maxLen; omega) (by unfold maxLen; omega) (HIN17.out.below H7).rows hin7.rows).mono ?_); rintro e w19 ⟨rfl, hb19⟩; have H8 := H7.trans (hb19.mono H7.size)))
            have HK19 := Lib.hid (HK17.out.below H8)
            have HP19 := Lib.hid (HP17.out.below H8)
            have HX19 := Lib.hid (own_keeps HX17.out H8)
            have HIN19 := Lib.hid (HIN17.out.below H8)
            have HBX19 := Lib.hid (HBX17.out.below H8)
            have HG19 := Lib.hid (HG17.out.below H8)
            clear hb18 hb19 H7 H8 hD H17 hin7 HK17 HP17 HX17 HIN17 HBX17 HG17
            have ev := intVals_length vs
            have ez := intVals_length zs
            have eps := intVals_length ps
            have eqs := intVals_length qs
            go_wp2_with fail
            refine (markStrsE X 1 ss.length (some ⟨X, 0, none⟩) ss.length (strVals ss) _ (by omega) (by omega) HX19.out).mono ?_
            rintro e w20 ⟨rfl, _, hg20⟩
            have t20 : Turn X (X + 1) w19 w20 := Turn.of_grown hg20 (fun j hj => by have h : X = j := Option.some.inj hj; omega)
            have HK20 := Lib.hid (HK19.out.turn t20 (by omega))
            have HP20 := Lib.hid (HP19.out.turn t20 (.inr (by omega)))
            have HG20 := Lib.hid (HG19.out.turn t20 (.inl (by omega)))
            have HIN20 := Lib.hid (HIN19.out.turn t20 (.inr (by omega)))
            have hbx20 := HBX19.out.turn t20 (.inr (by omega))
            have x0 := hbx20.c 0 _ rfl
            have x1 := hbx20.c 1 _ rfl
            clear hbx20 hg20 t20 HK19 HP19 HX19 HIN19 HBX19 HG19
            go_wp2_with fail
            refine (markHeap w12.heap.size w13.heap.size (1 + ss.length) vs.length zs.length _ _ _ _ _ _ _ ev ez (by omega) (by omega) (by omega) HIN20.out).mono ?_
            rintro e w21 ⟨rfl, _, t21⟩
            have HK21 := Lib.hid (HK20.out.turn t21 (by omega))
            have HP21 := Lib.hid (HP20.out.turn t21 (.inr (by omega)))
            have HG21 := Lib.hid (HG20.out.turn t21 (.inl (by omega)))
            have hq21 : ¬ (((1 + ss.length + vs.length + zs.length : Nat) : Int) < 0) := by omega
            have hg0 := HG21.out.box.c 0 _ rfl
            have hg1 := HG21.out.box.c 1 _ rfl
            have hp0 := HP21.out.box.c 0 _ rfl
            have hp1 := HP21.out.box.c 1 _ rfl
            clear x0 x1 t21 HK20 HP20 HG20 HIN20
            go_wp2_with fail
            refine (eqHeaps _ _ _ _ _ _ _ _ ps qs _ (by unfold maxLen; omega) (by unfold maxLen; omega) HG21.out.hin.rows HP21.out.hin.rows).mono ?_
            rintro e w22 ⟨rfl, hb22⟩
            have HK22 := Lib.hid (HK21.out.below hb22)
            have HP22 := Lib.hid (HP21.out.below hb22)
            have HG22 := Lib.hid (HG21.out.below hb22)
            clear hg0 hg1 hp0 hp1 hb22 HK21 HP21 HG21
            have hg0 := HG22.out.box.c 0 _ rfl
            have hg1 := HG22.out.box.c 1 _ rfl
            go_wp2_with fail
            refine (markHeap lG hG 1 ps.length qs.length _ _ _ _ _ _ _ eps eqs (by omega) (by omega) (by omega) HG22.out.hin).mono ?_
            rintro e w23 ⟨rfl, hm23, t23⟩
            have HK23 := Lib.hid (HK22.out.turn t23 (by omega))
            have HP23 := Lib.hid (HP22.out.turn t23 (.inr (by omega)))
            have hb23 := HG22.out.box.turn t23 HG22.out.out
            have HM23 := Lib.hid hm23
            have HBG23 := Lib.hid hb23
            have hq23 : ¬ (((1 + ps.length + qs.length : Nat) : Int) < 0) := by omega
            clear hg0 hg1 t23 HK22 HP22 HG22 hm23 hb23 hq21
            have hg0 := HBG23.out.c 0 _ rfl
            have hg1 := HBG23.out.c 1 _ rfl
            go_wp2_with fail
            refine (heldHeap 1 ps.length qs.length _ _ _ _ _ (by omega) (by omega) (by omega) (HM23.out.marks)).mono ?_
            rintro e w24 ⟨rfl, hb24⟩
            have HK24 := Lib.hid (HK23.out.below hb24)
            have HP24 := Lib.hid (HP23.out.below hb24)
            have HM24 := Lib.hid (HM23.out.below hb24)
            have HBG24 := Lib.hid (HBG23.out.below hb24)
            clear hg0 hg1 hb24 HK23 HP23 HM23 HBG23
            go_wp2
            refine Code.wp_mono (Q := After34 va vc ss k sa sb a b ca cb vs zs w.heap.size c9 RP RG (((1 + ps.length + qs.length : Nat) : Int)) w24 ps qs) ?tail34 ?reg34
            case' reg34 =>
              have HK := Lib.hid (fun W (hb : Below w24.heap.size w24 W) => HK24.out.below hb)
              have hl24 := HK24.out.lt
              go_region_held3 (fun W => (W.cell? ⟨w.heap.size, 0, none⟩ = some (.int .i64 k) ∧ W.cell? ⟨w.heap.size, 1, none⟩ = some (.string sa) ∧ W.cell? ⟨w.heap.size, 2, none⟩ = some (.string sb)) ∧ (W.cell? ⟨w.heap.size + 1, 0, none⟩ = some (.slice a vs.length ca) ∧ W.cell? ⟨w.heap.size + 1, 1, none⟩ = some (.slice b zs.length cb)))
                (first | (refine (HK.out _ ?_).five; (repeat (first | with_reducible exact Below.refl _ _ | with_reducible assumption | with_reducible refine Below.drew ?_ | with_reducible refine Below.setCell ?_ (by go_size) _ | with_reducible refine Below.alloc ?_ (by go_size) _)); done))
                (first
                  | (go_at_call 20; (with_reducible refine (toStrsL va vc ss _ (by omega) (HARG.out _ (HK.out _ (by repeat (first | with_reducible exact Below.refl _ _ | with_reducible assumption | with_reducible refine Below.drew ?_ | with_reducible refine Below.setCell ?_ (by go_size) _ | with_reducible refine Below.alloc ?_ (by go_size) _))).b).1).mono ?_); rintro e w25 ⟨o, ho4, rfl, hx4, hb4⟩; have hz4 := hb4.size; (try simp [World.size_alloc, World.size_drew] at hz4); (try (refine keep_cell (p := ⟨w24.heap.size, 0, none⟩) (x := .slice none 0 0) hb4 ?_ ?_ (fun za_0_1 => ?_); (focus (first | go_size | omega)); (focus (first | with_reducible exact bx0_a _ _ | with_reducible exact bx0_b _ _ | with_reducible exact bx0_c _ _)))); (try (refine keep_frozen (g := w24.heap.size) hb4 ?_ ?_ (fun zf_0_1 => ?_); (focus (first | go_size | omega)); (focus (first | with_reducible exact bxF_a _ _ | with_reducible exact bxF_b _ _ | with_reducible exact bxF_c _ _)))); (try (refine keep_cell (p := ⟨w24.heap.size, 1, none⟩) (x := .slice none 0 0) hb4 ?_ ?_ (fun zb_0_1 => ?_); (focus (first | go_size | omega)); (focus (first | with_reducible exact bx1_a _ _ | with_reducible exact bx1_b _ _ | with_reducible exact bx1_c _ _)))); have H4 : Below w24.heap.size w24 w25 := Below.trans (by repeat (first | with_reducible exact Below.refl _ _ | with_reducible assumption | with_reducible refine Below.drew ?_ | with_reducible refine Below.setCell ?_ (by go_size) _ | with_reducible refine Below.alloc ?_ (by go_size) _)) (hb4.mono (by go_size)))
                  | (go_at_call 21; (with_reducible refine (lawToStmt k sa sb _).mono ?_); rintro e w26 ⟨rfl, hb5⟩; have hz5 := hb5.size; (try simp [World.size_alloc] at hz5); (try (refine keep_cell (p := ⟨w24.heap.size, 0, none⟩) (x := .slice none 0 0) hb5 ?_ ?_ (fun za_0_2 => ?_); (focus (first | go_size | omega)); (focus (first | with_reducible exact za_0_1 | with_reducible exact bx0_a _ _ | with_reducible exact bx0_b _ _ | with_reducible exact bx0_c _ _)))); (try (refine keep_frozen (g := w24.heap.size) hb5 ?_ ?_ (fun zf_0_2 => ?_); (focus (first | go_size | omega)); (focus (first | with_reducible exact zf_0_1 | with_reducible exact bxF_a _ _ | with_reducible exact bxF_b _ _ | with_reducible exact bxF_c _ _)))); (try (refine keep_cell (p := ⟨w24.heap.size, 1, none⟩) (x := .slice none 0 0) hb5 ?_ ?_ (fun zb_0_2 => ?_); (focus (first | go_size | omega)); (focus (first | with_reducible exact zb_0_1 | with_reducible exact bx1_a _ _ | with_reducible exact bx1_b _ _ | with_reducible exact bx1_c _ _)))); (try (refine keep_cell (p := ⟨w25.heap.size, 0, none⟩) (x := .slice none 0 0) hb5 ?_ ?_ (fun za_1_2 => ?_); (focus (first | go_size | omega)); (focus (first | with_reducible exact bx0_a _ _ | with_reducible exact bx0_b _ _ | with_reducible exact bx0_c _ _)))); (try (refine keep_frozen (g := w25.heap.size) hb5 ?_ ?_ (fun zf_1_2 => ?_); (focus (first | go_size | omega)); (focus (first | with_reducible exact bxF_a _ _ | with_reducible exact bxF_b _ _ | with_reducible exact bxF_c _ _)))); (try (refine keep_cell (p := ⟨w25.heap.size, 1, none⟩) (x := .slice none 0 0) hb5 ?_ ?_ (fun zb_1_2 => ?_); (focus (first | go_size | omega)); (focus (first | with_reducible exact bx1_a _ _ | with_reducible exact bx1_b _ _ | with_reducible exact bx1_c _ _)))); have H45 : Below w25.heap.size w25 w26 := Below.trans (by repeat (first | with_reducible exact Below.refl _ _ | with_reducible assumption | with_reducible refine Below.drew ?_ | with_reducible refine Below.setCell ?_ (by go_size) _ | with_reducible refine Below.alloc ?_ (by go_size) _)) (hb5.mono (by go_size)); have H5 := H4.trans (H45.mono H4.size))
                  | (go_at_call 22; (with_reducible refine (toHeap a b ca cb vs zs _ (by omega) (by omega) (HARG.out _ (HK.out _ (by repeat (first | with_reducible exact Below.refl _ _ | with_reducible assumption | with_reducible refine Below.drew ?_ | with_reducible refine Below.setCell ?_ (by go_size) _ | with_reducible refine Below.alloc ?_ (by go_size) _))).b).2.1).mono ?_); rintro e w27 ⟨p, q, rfl, hin6, hb6⟩; have hz6 := hb6.size; (try simp [World.size_alloc] at hz6); (try (refine keep_cell (p := ⟨w24.heap.size, 0, none⟩) (x := .slice none 0 0) hb6 ?_ ?_ (fun za_0_3 => ?_); (focus (first | go_size | omega)); (focus (first | with_reducible exact za_0_2 | with_reducible exact bx0_a _ _ | with_reducible exact bx0_b _ _ | with_reducible exact bx0_c _ _)))); (try (refine keep_frozen (g := w24.heap.size) hb6 ?_ ?_ (fun zf_0_3 => ?_); (focus (first | go_size | omega)); (focus (first | with_reducible exact zf_0_2 | with_reducible exact bxF_a _ _ | with_reducible exact bxF_b _ _ | with_reducible exact bxF_c _ _)))); (try (refine keep_cell (p := ⟨w24.heap.size, 1, none⟩) (x := .slice none 0 0) hb6 ?_ ?_ (fun zb_0_3 => ?_); (focus (first | go_size | omega)); (focus (first | with_reducible exact zb_0_2 | with_reducible exact bx1_a _ _ | with_reducible exact bx1_b _ _ | with_reducible exact bx1_c _ _)))); (try (refine keep_cell (p := ⟨w25.heap.size, 0, none⟩) (x := .slice none 0 0) hb6 ?_ ?_ (fun za_1_3 => ?_); (focus (first | go_size | omega)); (focus (first | with_reducible exact za_1_2 | with_reducible exact bx0_a _ _ | with_reducible exact bx0_b _ _ | with_reducible exact bx0_c _ _)))); (try (refine keep_frozen (g := w25.heap.size) hb6 ?_ ?_ (fun zf_1_3 => ?_); (focus (first | go_size | omega)); (focus (first | with_reducible exact zf_1_2 | with_reducible exact bxF_a _ _ | with_reducible exact bxF_b _ _ | with_reducible exact bxF_c _ _)))); (try (refine keep_cell (p := ⟨w25.heap.size, 1, none⟩) (x := .slice none 0 0) hb6 ?_ ?_ (fun zb_1_3 => ?_); (focus (first | go_size | omega)); (focus (first | with_reducible exact zb_1_2 | with_reducible exact bx1_a _ _ | with_reducible exact bx1_b _ _ | with_reducible exact bx1_c _ _)))); (try (refine keep_cell (p := ⟨w26.heap.size, 0, none⟩) (x := .slice none 0 0) hb6 ?_ ?_ (fun za_2_3 => ?_); (focus (first | go_size | omega)); (focus (first | with_reducible exact bx0_a _ _ | with_reducible exact bx0_b _ _ | with_reducible exact bx0_c _ _)))); (try (refine keep_frozen (g := w26.heap.size) hb6 ?_ ?_ (fun zf_2_3 => ?_); (focus (first | go_size | omega)); (focus (first | with_reducible exact bxF_a _ _ | with_reducible exact bxF_b _ _ | with_reducible exact bxF_c _ _)))); (try (refine keep_cell (p := ⟨w26.heap.size, 1, none⟩) (x := .slice none 0 0) hb6 ?_ ?_ (fun zb_2_3 => ?_); (focus (first | go_size | omega)); (focus (first | with_reducible exact bx1_a _ _ | with_reducible exact bx1_b _ _ | with_reducible exact bx1_c _ _)))); have H46 : Below w25.heap.size w25 w27 := Below.trans (by repeat (first | with_reducible exact Below.refl _ _ | with_reducible assumption | with_reducible refine Below.drew ?_ | with_reducible refine Below.setCell ?_ (by go_size) _ | with_reducible refine Below.alloc ?_ (by go_size) _)) (hb6.mono (by go_size)); have H6 := H4.trans (H46.mono H4.size))
                  | (go_at_call 7; (refine Calls.mono (HIX.out o w25 w27 _ p q _ _ hx4 ?_ hin6 ?_ ?_) ?_); (focus ((repeat (first | with_reducible exact Below.refl _ _ | with_reducible assumption | with_reducible refine Below.drew ?_ | with_reducible refine Below.setCell ?_ (by go_size) _ | with_reducible refine Below.alloc ?_ (by go_size) _)); done)); (focus ((repeat (first | with_reducible exact Below.refl _ _ | with_reducible assumption | with_reducible refine Below.drew ?_ | with_reducible refine Below.setCell ?_ (by go_size) _ | with_reducible refine Below.alloc ?_ (by go_size) _)); done)); (focus (refine (HK.out _ ?_).b; (repeat (first | with_reducible exact Below.refl _ _ | with_reducible assumption | with_reducible refine Below.drew ?_ | with_reducible refine Below.setCell ?_ (by go_size) _ | with_reducible refine Below.alloc ?_ (by go_size) _)); done)); rintro e w28 ⟨lo9, xa, xca, xb, xcb, hlo9, rfl, hin9, hb7⟩; (try simp [World.size_alloc] at hlo9); have hz7 := hb7.size; (try simp [World.size_alloc] at hz7); (try (refine keep_cell (p := ⟨w24.heap.size, 0, none⟩) (x := .slice none 0 0) hb7 ?_ ?_ (fun za_0_4 => ?_); (focus (first | go_size | omega)); (focus (first | with_reducible exact za_0_3 | with_reducible exact bx0_a _ _ | with_reducible exact bx0_b _ _ | with_reducible exact bx0_c _ _)))); (try (refine keep_frozen (g := w24.heap.size) hb7 ?_ ?_ (fun zf_0_4 => ?_); (focus (first | go_size | omega)); (focus (first | with_reducible exact zf_0_3 | with_reducible exact bxF_a _ _ | with_reducible exact bxF_b _ _ | with_reducible exact bxF_c _ _)))); (try (refine keep_cell (p := ⟨w24.heap.size, 1, none⟩) (x := .slice none 0 0) hb7 ?_ ?_ (fun zb_0_4 => ?_); (focus (first | go_size | omega)); (focus (first | with_reducible exact zb_0_3 | with_reducible exact bx1_a _ _ | with_reducible exact bx1_b _ _ | with_reducible exact bx1_c _ _)))); (try (refine keep_cell (p := ⟨w25.heap.size, 0, none⟩) (x := .slice none 0 0) hb7 ?_ ?_ (fun za_1_4 => ?_); (focus (first | go_size | omega)); (focus (first | with_reducible exact za_1_3 | with_reducible exact bx0_a _ _ | with_reducible exact bx0_b _ _ | with_reducible exact bx0_c _ _)))); (try (refine keep_frozen (g := w25.heap.size) hb7 ?_ ?_ (fun zf_1_4 => ?_); (focus (first | go_size | omega)); (focus (first | with_reducible exact zf_1_3 | with_reducible exact bxF_a _ _ | with_reducible exact bxF_b _ _ | with_reducible exact bxF_c _ _)))); (try (refine keep_cell (p := ⟨w25.heap.size, 1, none⟩) (x := .slice none 0 0) hb7 ?_ ?_ (fun zb_1_4 => ?_); (focus (first | go_size | omega)); (focus (first | with_reducible exact zb_1_3 | with_reducible exact bx1_a _ _ | with_reducible exact bx1_b _ _ | with_reducible exact bx1_c _ _)))); (try (refine keep_cell (p := ⟨w26.heap.size, 0, none⟩) (x := .slice none 0 0) hb7 ?_ ?_ (fun za_2_4 => ?_); (focus (first | go_size | omega)); (focus (first | with_reducible exact za_2_3 | with_reducible exact bx0_a _ _ | with_reducible exact bx0_b _ _ | with_reducible exact bx0_c _ _)))); (try (refine keep_frozen (g := w26.heap.size) hb7 ?_ ?_ (fun zf_2_4 => ?_); (focus (first | go_size | omega)); (focus (first | with_reducible exact zf_2_3 | with_reducible exact bxF_a _ _ | with_reducible exact bxF_b _ _ | with_reducible exact bxF_c _ _)))); (try (refine keep_cell (p := ⟨w26.heap.size, 1, none⟩) (x := .slice none 0 0) hb7 ?_ ?_ (fun zb_2_4 => ?_); (focus (first | go_size | omega)); (focus (first | with_reducible exact zb_2_3 | with_reducible exact bx1_a _ _ | with_reducible exact bx1_b _ _ | with_reducible exact bx1_c _ _)))); (try (refine keep_cell (p := ⟨w27.heap.size, 0, none⟩) (x := .slice none 0 0) hb7 ?_ ?_ (fun za_3_4 => ?_); (focus (first | go_size | omega)); (focus (first | with_reducible exact bx0_a _ _ | with_reducible exact bx0_b _ _ | with_reducible exact bx0_c _ _)))); (try (refine keep_frozen (g := w27.heap.size) hb7 ?_ ?_ (fun zf_3_4 => ?_); (focus (first | go_size | omega)); (focus (first | with_reducible exact bxF_a _ _ | with_reducible exact bxF_b _ _ | with_reducible exact bxF_c _ _)))); (try (refine keep_cell (p := ⟨w27.heap.size, 1, none⟩) (x := .slice none 0 0) hb7 ?_ ?_ (fun zb_3_4 => ?_); (focus (first | go_size | omega)); (focus (first | with_reducible exact bx1_a _ _ | with_reducible exact bx1_b _ _ | with_reducible exact bx1_c _ _)))); have H9 : Below w24.heap.size w24 w28 := Below.trans (by repeat (first | with_reducible exact Below.refl _ _ | with_reducible assumption | with_reducible refine Below.drew ?_ | with_reducible refine Below.setCell ?_ (by go_size) _ | with_reducible refine Below.alloc ?_ (by go_size) _)) (hb7.mono (by go_size))))
              all_goals
                have hbl9 := hin9.blocks
                try simp only at hbl9
                first
                  | (have box9 : BoxL w28 w24.heap.size [.slice none 0 0, .slice none 0 0] := box_of (by assumption) (by go_size) (by assumption) (by assumption)
                     have hneR : ∀ k, blocksH xa xb ps.length xca qs.length xcb k → k ≠ w24.heap.size := fun k hk e => by have := hbl9 k hk; omega
                     have hinR := ((hin9.setNot (i := 0) (u := .slice xa ps.length xca) hneR).setNot (i := 1) (u := .slice xb qs.length xcb) hneR)
                     have boxR := (box9.set 0 (.slice xa ps.length xca)).set 1 (.slice xb qs.length xcb)
                     have hBR : Below w24.heap.size w24 ((w28.setCell ⟨w24.heap.size, 0, none⟩ (.slice xa ps.length xca)).setCell ⟨w24.heap.size, 1, none⟩ (.slice xb qs.length xcb)) := (H9.setCell (by show w24.heap.size ≤ w24.heap.size; omega) _).setCell (by show w24.heap.size ≤ w24.heap.size; omega) _
                     have hsR : ((w28.setCell ⟨w24.heap.size, 0, none⟩ (.slice xa ps.length xca)).setCell ⟨w24.heap.size, 1, none⟩ (.slice xb qs.length xcb)).heap.size = w28.heap.size := by simp
                     exact ⟨rfl, _, lo9, w28.heap.size, xa, xca, xb, xcb, _, _, _, _, _, _, _, _, _, _, _, _, _, _, _, _, _, _, _, _, _, _, _, _, _, _, _, _, _, _, _, _, _, _, _, _, _, _, _, _, _, _, _, _, _, _, _, _, _, _, _, _, _, _, _, _, _, _, _, _, _, _, _, _, _, _, _, _, _, _, _, _, _, _, _, _, _, _, _, _, _, _, _, _, _, _, _, _, _, _, _, _, _, _, _, _, _, _, _, _, _, rfl, ⟨boxR, hinR, .inl (by omega), by omega, by omega, by omega, by omega, by omega⟩, hBR⟩)
                  | (have box9 : BoxL w28 w25.heap.size [.slice none 0 0, .slice none 0 0] := box_of (by assumption) (by go_size) (by assumption) (by assumption)
                     have hneR : ∀ k, blocksH xa xb ps.length xca qs.length xcb k → k ≠ w25.heap.size := fun k hk e => by have := hbl9 k hk; omega
                     have hinR := ((hin9.setNot (i := 0) (u := .slice xa ps.length xca) hneR).setNot (i := 1) (u := .slice xb qs.length xcb) hneR)
                     have boxR := (box9.set 0 (.slice xa ps.length xca)).set 1 (.slice xb qs.length xcb)
                     have hBR : Below w24.heap.size w24 ((w28.setCell ⟨w25.heap.size, 0, none⟩ (.slice xa ps.length xca)).setCell ⟨w25.heap.size, 1, none⟩ (.slice xb qs.length xcb)) := (H9.setCell (by show w24.heap.size ≤ w25.heap.size; omega) _).setCell (by show w24.heap.size ≤ w25.heap.size; omega) _
                     have hsR : ((w28.setCell ⟨w25.heap.size, 0, none⟩ (.slice xa ps.length xca)).setCell ⟨w25.heap.size, 1, none⟩ (.slice xb qs.length xcb)).heap.size = w28.heap.size := by simp
                     exact ⟨rfl, _, lo9, w28.heap.size, xa, xca, xb, xcb, _, _, _, _, _, _, _, _, _, _, _, _, _, _, _, _, _, _, _, _, _, _, _, _, _, _, _, _, _, _, _, _, _, _, _, _, _, _, _, _, _, _, _, _, _, _, _, _, _, _, _, _, _, _, _, _, _, _, _, _, _, _, _, _, _, _, _, _, _, _, _, _, _, _, _, _, _, _, _, _, _, _, _, _, _, _, _, _, _, _, _, _, _, _, _, _, _, _, _, _, _, rfl, ⟨boxR, hinR, .inl (by omega), by omega, by omega, by omega, by omega, by omega⟩, hBR⟩)
                  | (have box9 : BoxL w28 w26.heap.size [.slice none 0 0, .slice none 0 0] := box_of (by assumption) (by go_size) (by assumption) (by assumption)
                     have hneR : ∀ k, blocksH xa xb ps.length xca qs.length xcb k → k ≠ w26.heap.size := fun k hk e => by have := hbl9 k hk; omega
                     have hinR := ((hin9.setNot (i := 0) (u := .slice xa ps.length xca) hneR).setNot (i := 1) (u := .slice xb qs.length xcb) hneR)
                     have boxR := (box9.set 0 (.slice xa ps.length xca)).set 1 (.slice xb qs.length xcb)
                     have hBR : Below w24.heap.size w24 ((w28.setCell ⟨w26.heap.size, 0, none⟩ (.slice xa ps.length xca)).setCell ⟨w26.heap.size, 1, none⟩ (.slice xb qs.length xcb)) := (H9.setCell (by show w24.heap.size ≤ w26.heap.size; omega) _).setCell (by show w24.heap.size ≤ w26.heap.size; omega) _
                     have hsR : ((w28.setCell ⟨w26.heap.size, 0, none⟩ (.slice xa ps.length xca)).setCell ⟨w26.heap.size, 1, none⟩ (.slice xb qs.length xcb)).heap.size = w28.heap.size := by simp
                     exact ⟨rfl, _, lo9, w28.heap.size, xa, xca, xb, xcb, _, _, _, _, _, _, _, _, _, _, _, _, _, _, _, _, _, _, _, _, _, _, _, _, _, _, _, _, _, _, _, _, _, _, _, _, _, _, _, _, _, _, _, _, _, _, _, _, _, _, _, _, _, _, _, _, _, _, _, _, _, _, _, _, _, _, _, _, _, _, _, _, _, _, _, _, _, _, _, _, _, _, _, _, _, _, _, _, _, _, _, _, _, _, _, _, _, _, _, _, _, rfl, ⟨boxR, hinR, .inl (by omega), by omega, by omega, by omega, by omega, by omega⟩, hBR⟩)
                  | (have box9 : BoxL w28 w27.heap.size [.slice none 0 0, .slice none 0 0] := box_of (by assumption) (by go_size) (by assumption) (by assumption)
                     have hneR : ∀ k, blocksH xa xb ps.length xca qs.length xcb k → k ≠ w27.heap.size := fun k hk e => by have := hbl9 k hk; omega
                     have hinR := ((hin9.setNot (i := 0) (u := .slice xa ps.length xca) hneR).setNot (i := 1) (u := .slice xb qs.length xcb) hneR)
                     have boxR := (box9.set 0 (.slice xa ps.length xca)).set 1 (.slice xb qs.length xcb)
                     have hBR : Below w24.heap.size w24 ((w28.setCell ⟨w27.heap.size, 0, none⟩ (.slice xa ps.length xca)).setCell ⟨w27.heap.size, 1, none⟩ (.slice xb qs.length xcb)) := (H9.setCell (by show w24.heap.size ≤ w27.heap.size; omega) _).setCell (by show w24.heap.size ≤ w27.heap.size; omega) _
                     have hsR : ((w28.setCell ⟨w27.heap.size, 0, none⟩ (.slice xa ps.length xca)).setCell ⟨w27.heap.size, 1, none⟩ (.slice xb qs.length xcb)).heap.size = w28.heap.size := by simp
                     exact ⟨rfl, _, lo9, w28.heap.size, xa, xca, xb, xcb, _, _, _, _, _, _, _, _, _, _, _, _, _, _, _, _, _, _, _, _, _, _, _, _, _, _, _, _, _, _, _, _, _, _, _, _, _, _, _, _, _, _, _, _, _, _, _, _, _, _, _, _, _, _, _, _, _, _, _, _, _, _, _, _, _, _, _, _, _, _, _, _, _, _, _, _, _, _, _, _, _, _, _, _, _, _, _, _, _, _, _, _, _, _, _, _, _, _, _, _, _, rfl, ⟨boxR, hinR, .inl (by omega), by omega, by omega, by omega, by omega, by omega⟩, hBR⟩)
                  | (have hal := (Below.refl w28.heap.size w28).alloc (Nat.le_refl _) (.cells #[.slice xa ps.length xca, .slice xb qs.length xcb] 29)
                     have boxR : BoxL (w28.alloc (.cells #[.slice xa ps.length xca, .slice xb qs.length xcb] 29)) w28.heap.size [.slice xa ps.length xca, .slice xb qs.length xcb] := BoxL.new w28 _ _
                     have hinR := hin9.below hal
                     have hBR := H9.trans (hal.mono H9.size)
                     have hsR : (w28.alloc (.cells #[.slice xa ps.length xca, .slice xb qs.length xcb] 29)).heap.size = w28.heap.size + 1 := by simp
                     exact ⟨rfl, _, lo9, w28.heap.size, xa, xca, xb, xcb, _, _, _, _, _, _, _, _, _, _, _, _, _, _, _, _, _, _, _, _, _, _, _, _, _, _, _, _, _, _, _, _, _, _, _, _, _, _, _, _, _, _, _, _, _, _, _, _, _, _, _, _, _, _, _, _, _, _, _, _, _, _, _, _, _, _, _, _, _, _, _, _, _, _, _, _, _, _, _, _, _, _, _, _, _, _, _, _, _, _, _, _, _, _, _, _, _, _, _, _, _, rfl, ⟨boxR, hinR, .inr (Nat.le_refl _), by omega, by omega, by omega, by omega, by omega⟩, hBR⟩)
            case' tail34 =>
              rintro e act W30 ⟨rfl, RH, lH, hH, ha_, hca, hb_, hcb, u7, u10, u11, u14, u16, u19, u20, u21, u22, u23, u24, u25, u26, u27, u28, u29, u30, u31, u32, u33, u34, u35, u36, u37, u38, u39, u40, u41, u42, u43, u44, u45, u46, u47, u48, u49, u50, u51, u52, u53, u54, u55, u56, u57, u58, u59, u60, u61, u62, u63, u64, u65, u66, u67, u68, u69, u70, u71, u72, u73, u74, u75, u76, u77, u78, u79, u80, u81, u82, u83, u84, u85, u86, u87, u88, u89, u90, u91, u92, u93, u94, u95, u96, u97, u98, u99, u100, u101, u102, u103, u104, u105, u106, u107, u108, u109, u110, u111, u112, u113, u114, rfl, hHs, hb30⟩
              unfold frame34
              have HK30 := Lib.hid (HK24.out.below hb30)
              have HP30 := Lib.hid (HP24.out.below hb30)
              have HM30 := Lib.hid (HM24.out.below hb30)
              have HBG30 := Lib.hid (HBG24.out.below hb30)
              have HH30 := Lib.hid hHs
              have hh0 := hHs.box.c 0 _ rfl
              have hh1 := hHs.box.c 1 _ rfl
              have hp0 := HP30.out.box.c 0 _ rfl
              have hp1 := HP30.out.box.c 1 _ rfl
              clear hHs hb30 HK24 HP24 HM24 HBG24
              go_wp2_with fail
              refine (eqHeaps _ _ _ _ _ _ _ _ ps qs _ (by unfold maxLen; omega) (by unfold maxLen; omega) HH30.out.hin.rows HP30.out.hin.rows).mono ?_
              rintro e w31 ⟨rfl, hb31⟩
              have HB31 := Lib.hid (HK30.out.below hb31).b
              have HM31 := Lib.hid (HM30.out.below hb31)
              have hbg31 := HBG30.out.below hb31
              clear hh0 hh1 hp0 hp1 hb31 HK30 HP30 HM30 HBG30 HH30
              have hg0 := hbg31.c 0 _ rfl
              have hg1 := hbg31.c 1 _ rfl
              clear hbg31
              go_wp2_with fail
              refine (heldHeap 1 ps.length qs.length _ _ _ _ _ (by omega) (by omega) (by omega) (HM31.out.marks)).mono ?_
              rintro e w32 ⟨rfl, hb32⟩
              have HB32 := Lib.hid (HB31.out.trans (hb32.mono HB31.out.size))
              clear hg0 hg1 hb32 HB31
              go_wp2
              go_ret
              exact ⟨rfl, HB32.out⟩

theorem own : ownKnob Tryd.prog.godebug = none := by kernel_rfl
theorem laidOut : laidOutB Tryd.prog = true := by kernel_rfl
theorem cellsString : Tryd.prog.cellsOf 9 = 1 := by kernel_rfl
set_option maxRecDepth 100000 in
theorem contract (H : Type) (enc : TypeId × Value → H) (W : World) (base : Nat) (args : Array Value) (ds gs : List (DataW H)) (before : List MemPlace)
    (hval : ∀ (j : Nat) t v, Tryd.f4.params[j]? = some t → args[j]? = some v → Value.okWide Tryd.prog W .any base t v)
    (hW : DataW.Whole enc Tryd.prog Tryd.f4.params.toList Rows.fnExactExecSpec.vars false W args.toList ds gs before)
    (hL : laidMetH Tryd.prog Rows.fnExactExecRow.laid W) (_hSh : W.ShapedOpen Tryd.prog) :
    Calls Tryd.prog 4 args W fun e W' => ∃ v, e = .returned v ∧ Rows.fnExactExecSpec.post enc Tryd.prog Tryd.f4 false true false false W args v W' := by
  have hW' := hW
  have hlt : ∀ x ∈ before, x.block < W.heap.size := fun x hx => hW'.lt x hx
  have hnamesTable : HasNamesTable W := namesTable_of 0 hL rfl
  obtain ⟨p, q, hA0, hV, rfl, _, _⟩ := hW
  have hA : DataW.TrodAll enc Tryd.prog W 0 (fun _ => true) true Tryd.f4.params.toList args.toList ds p := hA0
  rw [Tryd.params4] at hA hval
  obtain ⟨v0, v1, v2, d0, d1, d2, p0, p1, p2, rfl, rfl, rfl, t0, t1, t2⟩ := trodAll_three hA
  obtain ⟨g1, gs1, q1, rfl, hV1⟩ := gs_cons hV
  obtain ⟨rfl, _⟩ := trodVars_none hV1
  obtain ⟨a0, cap0, ss0, rfl, _, hlen0, hrow0, hws0, _, _⟩ := open_strs Tryd.underlying24 Tryd.underlying9 cellsString (fun x hx => hlt x (by simp [hx])) (base := base) (hval 0 24 v0 rfl rfl) t0
  obtain ⟨k1, sa1, sb1, rfl, hk1, hsa1, hsb1⟩ := open_stmt Tryd.underlying41 (by kernel_rfl) (by kernel_rfl) Tryd.underlying3 Tryd.underlying9 Tryd.underlying9 (hval 1 41 v1 rfl rfl) t1
  obtain ⟨a2, cap2, vs2, b2, capb2, zs2, rfl, hok2⟩ := open_heap Tryd.underlying42 (by kernel_rfl) (by kernel_rfl) Tryd.underlying27 Tryd.underlying27 Tryd.underlying3 (by kernel_rfl) (fun x hx => hlt x (by simp [hx])) (hval 2 42 v2 rfl rfl) t2
  refine (walk a0 cap0 ss0 k1 sa1 sb1 a2 cap2 vs2 b2 capb2 zs2 W hlen0 hws0 hrow0 hk1 hsa1 hsb1 hok2 hnamesTable).mono fun e W' ⟨he, hb⟩ => ?_
  subst he
  exact ⟨_, rfl, law_post_vars laidOut (by kernel_rfl) (by kernel_rfl) (by kernel_rfl) Tryd.underlying4 hW' rfl hb⟩

/-- A world for the witness. -/
noncomputable def start (os : Os) : World := World.doorLaid Tryd.prog 4000 os
theorem laid_met (os : Os) : laidMet Tryd.prog Rows.fnExactExecRow.laid ((start os).forCall (fun _ _ => 0) ⟨#[], #[.slice none 0 0, .agg #[.int .i64 0, .string ⟨#[]⟩, .string ⟨#[]⟩], .agg #[.slice none 0 0, .slice none 0 0]], []⟩).memory :=
  laidMet_of_run' 8 (by kernel_rfl) (by kernel_rfl)
theorem reads (os : Os) {H : Type} (enc : TypeId × Value → H) : ∃ places, DataW.whole enc Tryd.prog ((start os).forCall (fun _ _ => 0) ⟨#[], #[.slice none 0 0, .agg #[.int .i64 0, .string ⟨#[]⟩, .string ⟨#[]⟩], .agg #[.slice none 0 0, .slice none 0 0]], []⟩).memory Tryd.f4.params.toList Rows.fnExactExecSpec.vars false #[Value.slice none 0 0, .agg #[.int .i64 0, .string ⟨#[]⟩, .string ⟨#[]⟩], .agg #[.slice none 0 0, .slice none 0 0]].toList 8 = some ([.nil, .agg [.lit (.int .i64 0), .lit (.string []), .lit (.string [])], .agg [.nil, .nil]], [Rows.laid_loop_example_g00590_impl_namesTable], places) :=
  ⟨[.cell 1 0, .cell 1 1, .cell 1 2, .cell 1 3, .cell 1 4, .cell 1 5, .cell 1 6, .cell 1 7, .cell 1 8, .cell 1 9, .cell 1 10, .cell 1 11, .cell 1 12], by kernel_rfl⟩

set_option maxRecDepth 100000 in
theorem lifted (os : Os) (started : os.Started) (H : Type) (enc : TypeId × Value → H) (F : Stop.Interp) :
    ReturnsInHanded {} Tryd.checked os 4 .any ((OpenSpec.ofChange Rows.fnExactExecSpec).preRow enc Tryd.prog Tryd.f4 Rows.fnExactExecRow.domain false Rows.fnExactExecRow.laid) (((OpenSpec.ofChange Rows.fnExactExecSpec).at F).post enc Tryd.prog Tryd.f4 false true false false) := by
  obtain ⟨places, hx⟩ := reads os enc
  refine returnsInHanded_of_row (C := Tryd.checked) (s := OpenSpec.ofChange Rows.fnExactExecSpec) own started (by kernel_rfl) Tryd.func4
    (witness_row_atRef (enc := enc) (C := Tryd.checked) false (start os) #[.slice none 0 0, .agg #[.int .i64 0, .string ⟨#[]⟩, .string ⟨#[]⟩], .agg #[.slice none 0 0, .slice none 0 0]] rfl (by kernel_rfl) (by kernel_rfl) (by kernel_rfl)
      (OpenSpec.preRow_of_cond 8 hx (by kernel_rfl) (fun k hk => by cases hk) (by kernel_rfl) (laid_met os))) ?_
  intro W base args ds gs before hval hW _ _ _ hL hSh _
  exact contract H enc W base args ds gs before hval hW hL hSh

theorem said : Rows.FnExactExecSaid :=
  OpenClaim.holds_of_cond 4 Tryd.f4 rfl rfl rfl rfl rfl rfl rfl ⟨rfl, rfl, rfl, rfl, rfl⟩ rfl rfl rfl rfl rfl (by kernel_rfl) Tryd.func4 (by kernel_rfl)
    (of_decide_eq_true (by kernel_rfl)) (by unfold Func.isWrapper; first | (rw [if_pos (by decide +kernel)]; kernel_rfl) | (rw [if_neg (by decide +kernel)]; exact ⟨rfl, rfl⟩))
    (fun os started H enc _ F => by rw [OpenClaim.pre_eq_preRow]; exact lifted os started H enc F)

theorem plain (f : FuncId) (fn : Func) (hf : Tryd.pinned.checked.prog.funcNamed "loop.example/g00590/laws.FnExactExec" = some f) (hfn : Tryd.pinned.checked.prog.funcs[f]? = some fn) :
    Rows.fnExactExecCard.stood.looks = Tryd.pinned.checked.prog.looks [] ∧ ∀ (j : Nat) t, fn.params[j]? = some t → Tryd.pinned.checked.prog.wantsStandIn t = false := by
  obtain rfl : f = 4 := Option.some.inj ((show Tryd.prog.funcNamed "loop.example/g00590/laws.FnExactExec" = some 4 by kernel_rfl).symm.trans hf) |>.symm
  obtain rfl : fn = Tryd.f4 := (Option.some.inj (Tryd.func4.symm.trans hfn)).symm
  refine ⟨by kernel_rfl, fun j t ht => ?_⟩
  rw [Tryd.params4] at ht
  have hm : t ∈ [24, 41, 42] := by simpa using Array.mem_of_getElem? ht
  have hall : ([24, 41, 42].all fun u => !Tryd.prog.wantsStandIn u) = true := by kernel_rfl
  exact (show Tryd.prog.wantsStandIn t = false by simpa using List.all_eq_true.1 hall t hm)

/-- The card. -/
theorem card : Rows.FnExactExecCardSaid :=
  Claim7.holds_tied_plain_at .later [] _ _ _ _ said (fun _ h => by cases h) (by kernel_rfl) (fun _ h => by cases h) fnExactExec_row_tie rfl ⟨rfl, rfl⟩ (by kernel_rfl) rfl plain (by kernel_rfl)
#print axioms card
end Go.Proofs.YtpmmjaceehlpiaaDoor.exactExec
