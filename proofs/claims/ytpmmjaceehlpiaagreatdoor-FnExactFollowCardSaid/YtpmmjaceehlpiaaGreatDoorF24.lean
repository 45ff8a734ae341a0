/-
  Proved: for every program, every heap and every list of edges the law FnExactFollow returns true and leaves its arguments as they were, where the listed table of the program reads as its text lays it (the card ties it).
-/
import Derived.ChangeMaps5
import Derived.LaidLaws
import Derived.Deep.RegionHeld3
import Derived.Deep.DeepWitnessRowRef
import Derived.LaidMore
import Derived.Handy
import Derived.Test.YtpmmjaceehlpiaaGreatDoorF23
import Derived.Test.YtpmmjaceehlpiaaGreatDoorF22
import Derived.Test.YtpmmjaceehlpiaaGreatDoorF18
import Derived.Test.YtpmmjaceehlpiaaGreatDoorF19
namespace Go.Proofs.YtpmmjaceehlpiaaGreatDoor.exactFollow
open Go Go.RowKit Go.ChangeShapes Go.WideShapes Go.ChangeAt

/-- The law said true, and nothing old has turned. -/
def TrueEnd (w : World) (e : Ending) (w' : World) : Prop := e = .returned (.bool true) ∧ Below w.heap.size w w'

/-- A state that a call made, in a box: all of it between B and T. -/
structure Ans (B T : Nat) (W : World) (R lo hi : Nat) (xa : Option Addr) (xca : Nat) (xb : Option Addr) (xcb : Nat) (p1 : Int) (ps qs : List Int) : Prop where
  box : BoxL W R [.int .i64 p1, .slice xa ps.length xca, .slice xb qs.length xcb]
  hin : HeapIn lo hi W xa xca xb xcb (intVals ps) (intVals qs)
  out : R < lo ∨ hi ≤ R
  lo_ : B ≤ lo
  loR : B ≤ R
  hi_ : hi ≤ T
  hiR : R < T
  top : T ≤ W.heap.size
section
variable {B T : Nat} {W W' : World} {R lo hi lo' hi' xca xcb : Nat} {xa xb : Option Addr} {p1 : Int} {ps qs : List Int}
theorem Ans.below (h : Ans B T W R lo hi xa xca xb xcb p1 ps qs) (hb : Below W.heap.size W W') : Ans B T W' R lo hi xa xca xb xcb p1 ps qs :=
  ⟨h.box.below hb, h.hin.below hb, h.out, h.lo_, h.loR, h.hi_, h.hiR, Nat.le_trans h.top hb.size⟩
theorem Ans.turn (h : Ans B T W R lo hi xa xca xb xcb p1 ps qs) (t : Turn lo' hi' W W') (hd : hi' ≤ B ∨ T ≤ lo') : Ans B T W' R lo hi xa xca xb xcb p1 ps qs := by
  have h1 := h.lo_
  have h2 := h.loR
  have h3 := h.hi_
  have h4 := h.hiR
  exact ⟨h.box.turn t (by omega), h.hin.turn t (by omega), h.out, h1, h2, h3, h4, Nat.le_trans h.top t.size⟩
theorem box3_of {x y z : Value} (h0 : W.cell? ⟨R, 0, none⟩ = some x) (h1 : W.cell? ⟨R, 1, none⟩ = some y) (h2 : W.cell? ⟨R, 2, none⟩ = some z) (hf : ∀ o, W.frozen? ⟨R, o, none⟩ = false) (hlt : R < W.heap.size) : BoxL W R [x, y, z] := by
  refine ⟨fun i u hu => ?_, hf, hlt⟩
  match i with
  | 0 => exact h0.trans hu
  | 1 => exact h1.trans hu
  | 2 => exact h2.trans hu
  | k + 3 => simp at hu
theorem new_box (w : World) (xs : List Value) (t : TypeId) : ∃ W, w.alloc (.cells xs.toArray t) = W ∧ BoxL W w.heap.size xs ∧ Below w.heap.size w W ∧ w.heap.size < W.heap.size :=
  ⟨_, rfl, BoxL.new w xs t, (Below.refl _ _).alloc (Nat.le_refl _) _, by simp⟩
end
/-- The arguments. -/
structure Kept (w : World) (v0 v1 v2 u0 u1 : Value) (W : World) : Prop where
  st : BoxL W w.heap.size [v0, v1, v2]
  he : BoxL W (w.heap.size + 1) [u0, u1]
  b : Below w.heap.size w W
section
variable {w W W' : World} {v0 v1 v2 u0 u1 : Value} {lo hi : Nat}
theorem Kept.below (h : Kept w v0 v1 v2 u0 u1 W) (hb : Below W.heap.size W W') : Kept w v0 v1 v2 u0 u1 W' := ⟨h.st.below hb, h.he.below hb, h.b.trans (hb.mono h.b.size)⟩
theorem Kept.turn (h : Kept w v0 v1 v2 u0 u1 W) (t : Turn lo hi W W') (hl : w.heap.size + 2 ≤ lo) : Kept w v0 v1 v2 u0 u1 W' :=
  ⟨h.st.turn t (.inl (by omega)), h.he.turn t (.inl (by omega)), t.below h.b (by omega) h.b.size⟩
theorem Kept.lt (h : Kept w v0 v1 v2 u0 u1 W) : w.heap.size + 1 < W.heap.size := h.he.lt
theorem Kept.five (h : Kept w v0 v1 v2 u0 u1 W) : (W.cell? ⟨w.heap.size, 0, none⟩ = some v0 ∧ W.cell? ⟨w.heap.size, 1, none⟩ = some v1 ∧ W.cell? ⟨w.heap.size, 2, none⟩ = some v2) ∧ (W.cell? ⟨w.heap.size + 1, 0, none⟩ = some u0 ∧ W.cell? ⟨w.heap.size + 1, 1, none⟩ = some u1) :=
  ⟨⟨h.st.c 0 _ rfl, h.st.c 1 _ rfl, h.st.c 2 _ rfl⟩, h.he.c 0 _ rfl, h.he.c 1 _ rfl⟩
end
theorem nil_len {W : World} {p q : Option Addr} {vs zs : List Int} (h : HeapAt W p q vs zs) : (p = none → vs.length = 0) ∧ (q = none → zs.length = 0) :=
  ⟨fun e => by subst e; have := row_nil h.v; simpa [intVals] using this, fun e => by subst e; have := row_nil h.z; simpa [intVals] using this⟩
theorem toIntsL (a : Option Addr) (cap : Nat) (ns : List Int) (w : World) (hn : ns.length ≤ 1099511627776) (hrow : Row w w.heap.size a (intVals ns)) :
    Calls Tryz.prog 26 #[.slice a ns.length cap] w fun e w' => ∃ o, w.heap.size ≤ o ∧ e = .returned (.slice (some ⟨o, 0, none⟩) ns.length ns.length) ∧ w'.ownsRow o 3 1 (.slice (some ⟨o, 0, none⟩) ns.length ns.length) ns.length (intVals ns) ∧ Below w.heap.size w w' :=
  (toInts a cap ns w hn hrow).mono fun _ _ ⟨h1, h2, h3⟩ => ⟨_, Nat.le_refl _, h1, h2, h3⟩
def FollowL (p1 c1 c2 : Int) (ps qs : List Int) (w : World) (e : Ending) (w' : World) : Prop :=
  ∃ lo a ca b cb, w.heap.size ≤ lo ∧ e = .returned (.tuple #[spC p1 a ps.length ca b qs.length cb, .int .i64 c1, .int .i64 c2]) ∧ HeapIn lo w'.heap.size w' a ca b cb (intVals ps) (intVals qs) ∧ Below w.heap.size w w'
theorem followS_lens (ss : List ByteArray) (es : List Ed) : ∀ (l : List Int) (st : Sb) (k : Int), st.2.1.length ≤ 4 ∧ st.2.2.length ≤ 6 → (followS ss es st k l).1.2.1.length ≤ 4 ∧ (followS ss es st k l).1.2.2.length ≤ 6
  | [], st, k, h => h
  | e :: r, st, k, h => by
    rw [followS]
    split
    · split
      · rename_i h0
        refine followS_lens ss es r _ _ ?_
        obtain ⟨c, us, ys, hE⟩ : ∃ c us ys, execS ss (edgeAt es e).k (edgeAt es e).a (edgeAt es e).b st.2.1 st.2.2 = (c, us, ys) := ⟨_, _, _, rfl⟩
        rw [hE] at h0 ⊢
        have hc : c = 0 := h0
        subst hc
        have hH := heapB_parts (exec_heap hE)
        constructor
        · show us.length ≤ 4
          omega
        · show ys.length ≤ 6
          omega
      · exact h
    · exact h
theorem follow0_lens (ss : List ByteArray) (n : Int) (es : List Ed) (vs zs edges : List Int) : (follow0 ss n es vs zs edges).1.2.1.length ≤ 4 ∧ (follow0 ss n es vs zs edges).1.2.2.length ≤ 6 := by
  rw [follow0]
  split
  · rename_i h
    have hH := heapB_parts h.2
    refine followS_lens ss es edges _ _ ⟨?_, ?_⟩
    · show vs.length ≤ 4
      omega
    · show zs.length ≤ 6
      omega
  · simp
theorem bx0_a (W : World) (t : TypeId) : (W.alloc (.cells #[.int .i64 0, .slice none 0 0, .slice none 0 0] t)).cell? ⟨W.heap.size, 0, none⟩ = some (.int .i64 0) := (BoxL.new W [.int .i64 0, .slice none 0 0, .slice none 0 0] t).c 0 _ rfl
theorem bx1_a (W : World) (t : TypeId) : (W.alloc (.cells #[.int .i64 0, .slice none 0 0, .slice none 0 0] t)).cell? ⟨W.heap.size, 1, none⟩ = some (.slice none 0 0) := (BoxL.new W [.int .i64 0, .slice none 0 0, .slice none 0 0] t).c 1 _ rfl
theorem bx2_a (W : World) (t : TypeId) : (W.alloc (.cells #[.int .i64 0, .slice none 0 0, .slice none 0 0] t)).cell? ⟨W.heap.size, 2, none⟩ = some (.slice none 0 0) := (BoxL.new W [.int .i64 0, .slice none 0 0, .slice none 0 0] t).c 2 _ rfl
theorem bxF_a (W : World) (t : TypeId) : ∀ o, (W.alloc (.cells #[.int .i64 0, .slice none 0 0, .slice none 0 0] t)).frozen? ⟨W.heap.size, o, none⟩ = false := (BoxL.new W [.int .i64 0, .slice none 0 0, .slice none 0 0] t).f
theorem bx0_b (W : World) (t : TypeId) : (W.drew.alloc (.cells #[.int .i64 0, .slice none 0 0, .slice none 0 0] t)).cell? ⟨W.heap.size, 0, none⟩ = some (.int .i64 0) := bx0_a W.drew t
theorem bx0_c (W : World) (t : TypeId) : (W.alloc (.cells #[.int .i64 0, .slice none 0 0, .slice none 0 0] t)).drew.cell? ⟨W.heap.size, 0, none⟩ = some (.int .i64 0) := bx0_a W t
theorem bx1_b (W : World) (t : TypeId) : (W.drew.alloc (.cells #[.int .i64 0, .slice none 0 0, .slice none 0 0] t)).cell? ⟨W.heap.size, 1, none⟩ = some (.slice none 0 0) := bx1_a W.drew t
theorem bx1_c (W : World) (t : TypeId) : (W.alloc (.cells #[.int .i64 0, .slice none 0 0, .slice none 0 0] t)).drew.cell? ⟨W.heap.size, 1, none⟩ = some (.slice none 0 0) := bx1_a W t
theorem bx2_b (W : World) (t : TypeId) : (W.drew.alloc (.cells #[.int .i64 0, .slice none 0 0, .slice none 0 0] t)).cell? ⟨W.heap.size, 2, none⟩ = some (.slice none 0 0) := bx2_a W.drew t
theorem bx2_c (W : World) (t : TypeId) : (W.alloc (.cells #[.int .i64 0, .slice none 0 0, .slice none 0 0] t)).drew.cell? ⟨W.heap.size, 2, none⟩ = some (.slice none 0 0) := bx2_a W t
theorem bxF_b (W : World) (t : TypeId) : ∀ o, (W.drew.alloc (.cells #[.int .i64 0, .slice none 0 0, .slice none 0 0] t)).frozen? ⟨W.heap.size, o, none⟩ = false := bxF_a W.drew t
theorem bxF_c (W : World) (t : TypeId) : ∀ o, (W.alloc (.cells #[.int .i64 0, .slice none 0 0, .slice none 0 0] t)).drew.frozen? ⟨W.heap.size, o, none⟩ = false := bxF_a W t
/-- What is read no more. -/
structure Us where
  u7 : Value
  u11 : Value
  u12 : Value
  u13 : Value
  u15 : Value
  u16 : Value
  u17 : Value
  u19 : Value
  u23 : Value
  u24 : Value
  u25 : Value
  u26 : Value
  u27 : Value
  u28 : Value
  u29 : Value
  u30 : Value
  u31 : Value
  u32 : Value
  u33 : Value
  u34 : Value
  u35 : Value
  u36 : Value
  u37 : Value
  u38 : Value
  u39 : Value
  u40 : Value
  u41 : Value
  u42 : Value
  u43 : Value
  u44 : Value
  u45 : Value
  u46 : Value
  u47 : Value
  u48 : Value
  u49 : Value
  u50 : Value
  u51 : Value
  u52 : Value
  u53 : Value
  u54 : Value
  u55 : Value
  u56 : Value
  u57 : Value
  u58 : Value
  u59 : Value
  u60 : Value
  u61 : Value
  u62 : Value
  u63 : Value
  u64 : Value
  u65 : Value
  u66 : Value
  u67 : Value
  u68 : Value
  u69 : Value
  u70 : Value
  u71 : Value
  u72 : Value
  u73 : Value
  u74 : Value
  u75 : Value
  u76 : Value
  u77 : Value
  u78 : Value
  u79 : Value
  u80 : Value
  u81 : Value
  u82 : Value
  u83 : Value
  u84 : Value
  u85 : Value
  u86 : Value
  u87 : Value
  u88 : Value
  u89 : Value
  u90 : Value
  u91 : Value
  u92 : Value
  u93 : Value
  u94 : Value
  u95 : Value
  u96 : Value
  u97 : Value
  u98 : Value
  u99 : Value
  u100 : Value
  u101 : Value
  u102 : Value
  u103 : Value
  u104 : Value
  u105 : Value
  u106 : Value
  u107 : Value
  u108 : Value
  u109 : Value
  u110 : Value
  u111 : Value
  u112 : Value
  u113 : Value
  u114 : Value
  u115 : Value
  u116 : Value
  u117 : Value
  u118 : Value
  u119 : Value
  u120 : Value
  u121 : Value
  u122 : Value
  u123 : Value
  u124 : Value
  u125 : Value
  u126 : Value
  u127 : Value
  u128 : Value
  u129 : Value
  u130 : Value
  u131 : Value
  u132 : Value
  u133 : Value
  u134 : Value
  u135 : Value
  u136 : Value
  u137 : Value
  u138 : Value
def frame10 (A0 A1 A2 : Value) (B : Nat) (c1 c2 : Int)  (R : Nat) (u7 u23 u24 u25 u26 u27 u28 u29 u30 u31 u32 u33 u34 u35 u36 u37 u38 u39 u40 u41 u42 u43 u44 u45 u46 : Value) : Act :=
  { tmps := #[A0, A1, A2, .pointer (some ⟨B, 0, none⟩), .pointer (some ⟨B + 1, 0, none⟩), undef, .bool false, u7, .pointer (some ⟨R, 0, none⟩), .int .i64 c1, .int .i64 c2, undef, undef, undef, undef, undef, undef, undef, undef, undef, undef, undef, undef, u23, u24, u25, u26, u27, u28, u29, u30, u31, u32, u33, u34, u35, u36, u37, u38, u39, u40, u41, u42, u43, u44, u45, u46, undef, undef, undef, undef, undef, undef, undef, undef, undef, undef, undef, undef, undef, undef, undef, undef, undef, undef, undef, undef, undef, undef, undef, undef, undef, undef, undef, undef, undef, undef, undef, undef, undef, undef, undef, undef, undef, undef, undef, undef, undef, undef, undef, undef, undef, undef, undef, undef, undef, undef, undef, undef, undef, undef, undef, undef, undef, undef, undef, undef, undef, undef, undef, undef, undef, undef, undef, undef, undef, undef, undef, undef, undef, undef, undef, undef, undef, undef, undef, undef, undef, undef, undef, undef, undef, undef, undef, undef, undef, undef, undef, undef, undef, undef, undef, undef, undef, undef, undef, undef, undef, undef, undef, undef, undef, undef, undef, undef, undef, undef, undef, undef, undef, undef], defers := [] }
def After10 (A0 A1 A2 : Value) (B : Nat) (c1 c2 : Int)  (w0 : World) (p1 : Int) (ps qs : List Int) (e : Exit) (act : Act) (W : World) : Prop :=
  e = .normal ∧ ∃ R lo hi xa xca xb xcb u7 u23 u24 u25 u26 u27 u28 u29 u30 u31 u32 u33 u34 u35 u36 u37 u38 u39 u40 u41 u42 u43 u44 u45 u46, act = frame10 A0 A1 A2 B c1 c2  R u7 u23 u24 u25 u26 u27 u28 u29 u30 u31 u32 u33 u34 u35 u36 u37 u38 u39 u40 u41 u42 u43 u44 u45 u46 ∧ Ans w0.heap.size W.heap.size W R lo hi xa xca xb xcb p1 ps qs ∧ Below w0.heap.size w0 W
def frame37 (A0 A1 A2 : Value) (B : Nat) (c1 c2 : Int) (RP RG : Nat) (m18 : Int) (R : Nat) (U : Us) : Act :=
  { tmps := #[A0, A1, A2, .pointer (some ⟨B, 0, none⟩), .pointer (some ⟨B + 1, 0, none⟩), undef, .bool false, U.u7, .pointer (some ⟨RP, 0, none⟩), .int .i64 c1, .int .i64 c2, U.u11, U.u12, U.u13, .pointer (some ⟨RG, 0, none⟩), U.u15, U.u16, U.u17, .int .i64 m18, U.u19, .pointer (some ⟨R, 0, none⟩), .int .i64 c1, .int .i64 c2, U.u23, U.u24, U.u25, U.u26, U.u27, U.u28, U.u29, U.u30, U.u31, U.u32, U.u33, U.u34, U.u35, U.u36, U.u37, U.u38, U.u39, U.u40, U.u41, U.u42, U.u43, U.u44, U.u45, U.u46, U.u47, U.u48, U.u49, U.u50, U.u51, U.u52, U.u53, U.u54, U.u55, U.u56, U.u57, U.u58, U.u59, U.u60, U.u61, U.u62, U.u63, U.u64, U.u65, U.u66, U.u67, U.u68, U.u69, U.u70, U.u71, U.u72, U.u73, U.u74, U.u75, U.u76, U.u77, U.u78, U.u79, U.u80, U.u81, U.u82, U.u83, U.u84, U.u85, U.u86, U.u87, U.u88, U.u89, U.u90, U.u91, U.u92, U.u93, U.u94, U.u95, U.u96, U.u97, U.u98, U.u99, U.u100, U.u101, U.u102, U.u103, U.u104, U.u105, U.u106, U.u107, U.u108, U.u109, U.u110, U.u111, U.u112, U.u113, U.u114, U.u115, U.u116, U.u117, U.u118, U.u119, U.u120, U.u121, U.u122, U.u123, U.u124, U.u125, U.u126, U.u127, U.u128, U.u129, U.u130, U.u131, U.u132, U.u133, U.u134, U.u135, U.u136, U.u137, U.u138, undef, undef, undef, undef, undef, undef, undef, undef, undef, undef, undef, undef, undef, undef, undef, undef, undef, undef, undef, undef, undef, undef], defers := [] }
def After37 (A0 A1 A2 : Value) (B : Nat) (c1 c2 : Int) (RP RG : Nat) (m18 : Int) (w0 : World) (p1 : Int) (ps qs : List Int) (e : Exit) (act : Act) (W : World) : Prop :=
  e = .normal ∧ ∃ R lo hi xa xca xb xcb U, act = frame37 A0 A1 A2 B c1 c2 RP RG m18 R U ∧ Ans w0.heap.size W.heap.size W R lo hi xa xca xb xcb p1 ps qs ∧ Below w0.heap.size w0 W

set_option maxRecDepth 100000 in
set_option maxHeartbeats 16000000 in
theorem walk (va : Option Addr) (vc : Nat) (ss : List ByteArray) (n : Int) (ba : Option Addr) (bc : Nat) (es : List Ed) (a : Option Addr) (ca : Nat) (vs : List Int) (b : Option Addr) (cb : Nat) (zs : List Int) (ea : Option Addr) (ec : Nat) (edges : List Int) (w : World)
    (hs : ss.length ≤ maxLen ∧ (∀ s ∈ ss, s.size ≤ maxLen) ∧ Row w w.heap.size va (strVals ss)) (hn : -9223372036854775808 ≤ n ∧ n ≤ 9223372036854775807) (he : es.length ≤ maxLen ∧ (∀ x ∈ es, x.Ok) ∧ Row w w.heap.size ba (edVals es)) (hok : HeapOk w a b vs zs)
    (hel : edges.length ≤ maxLen) (hew : ∀ x ∈ edges, -9223372036854775808 ≤ x ∧ x ≤ 9223372036854775807) (her : Row w w.heap.size ea (intVals edges)) (hT : HasNamesTable w) :
    Calls Tryz.prog 4 #[prV va ss.length vc n ba es.length bc, heV a vs.length ca b zs.length cb, .slice ea edges.length ec] w (TrueEnd w) := by
  have HARG := Lib.hid (show ∀ W, Below w.heap.size w W → (Row W W.heap.size va (strVals ss) ∧ Row W W.heap.size ba (edVals es)) ∧ HeapAt W a b vs zs ∧ Row W W.heap.size ea (intVals edges) ∧ HasNamesTable W from fun W h => ⟨⟨(hs.2.2.below h).grow h.size, (he.2.2.below h).grow h.size⟩, hok.at_.below h (Nat.le_refl _), (her.below h).grow h.size, hT.keeps h⟩)
  obtain ⟨W0, hW0, hb0, bs0, bh0⟩ := two_boxL w [.slice va ss.length vc, .int .i64 n, .slice ba es.length bc] [.slice a vs.length ca, .slice b zs.length cb] 54 55
  simp only [List.toArray] at hW0
  have hK0 : Kept w (.slice va ss.length vc) (.int .i64 n) (.slice ba es.length bc) (.slice a vs.length ca) (.slice b zs.length cb) W0 := ⟨bs0, bh0, hb0⟩
  have hlv := hok.lv
  have hlz := hok.lz
  have HEW := Lib.hid hew
  have HSS := Lib.hid (And.intro hs.1 hs.2.1)
  have HES := Lib.hid he.2.1
  have hsl := hs.1
  have hesl := he.1
  clear bs0 bh0 hb0 hT hok her hew hs he
  unfold maxLen at hel hsl hesl
  go_enter Tryz.func4, Tryz.ntmps4
  by_cases hlong : edges.length > 1048576
  · have HB := Lib.hid hK0.b
    clear hK0
    go_wp2
    try rw [hW0]
    go_ret
    exact ⟨rfl, HB.out⟩
  have hel2 : edges.length ≤ 1048576 := by omega
  clear hlong
  obtain ⟨⟨s0, s1, s2⟩, _, _⟩ := hK0.five
  go_wp2_with fail
  try rw [hW0]
  clear hW0
  refine (szProgram va vc ss n ba bc es 1048576 _ (by omega) ⟨HSS.out.1, HSS.out.2, (HARG.out _ hK0.b).1.1⟩ ⟨hesl, HES.out, (HARG.out _ hK0.b).1.2⟩).mono ?_
  rintro e w1 ⟨r, rfl, hb1, hr, hok1⟩
  have hK1 := hK0.below hb1
  clear s0 s1 s2 hK0 hb1
  by_cases hneg : r < 0
  · have HB := Lib.hid hK1.b
    clear hK1
    go_wp2
    go_ret
    exact ⟨rfl, HB.out⟩
  have hsum := hok1 (by omega)
  obtain ⟨r', rfl⟩ : ∃ r' : Nat, r = (r' : Int) := ⟨r.toNat, by omega⟩
  obtain ⟨_, q0, q1⟩ := hK1.five
  go_wp2_with fail
  refine (szHeap a b ca cb vs.length zs.length r' _ (by omega) hlv hlz).mono ?_
  rintro e w3 ⟨r3, rfl, hb3, hr3, hok3⟩
  have hK3 := hK1.below hb3
  clear q0 q1 hK1 hb3
  by_cases hneg3 : r3 < 0
  · have HB := Lib.hid hK3.b
    clear hK3
    go_wp2
    go_ret
    exact ⟨rfl, HB.out⟩
  have hsum3 := hok3 (by omega)
  have hnat1 : ss.length ≤ 1048576 := by omega
  have hnat3 : es.length ≤ 1048576 := by omega
  have hnat2 : vs.length + zs.length ≤ 1048576 := by omega
  obtain ⟨p1, ps, qs, c1, c2, hfol⟩ : ∃ p1 ps qs c1 c2, follow0 ss n es vs zs edges = ((p1, (ps, qs)), c1, c2) := ⟨_, _, _, _, _, rfl⟩
  have hfl := follow0_lens ss n es vs zs edges
  rw [hfol] at hfl
  have hpl : ps.length ≤ 4 := hfl.1
  have hql : qs.length ≤ 6 := hfl.2
  have HSX := Lib.hid (show ∀ (d1 d2 d3 g1 g2 o : Nat) (W4 W5 W6 Y : World) (p q : Option Addr) (lo hi : Nat), W4.ownsRow d1 9 1 (.slice (some ⟨g1, 0, none⟩) ss.length ss.length) ss.length (strVals ss) → W4.ownsRow d2 85 5 (.slice (some ⟨g2, 0, none⟩) es.length es.length) es.length (edVals es) → Below W4.heap.size W4 Y → HeapIn lo hi W5 p vs.length q zs.length (intVals vs) (intVals zs) → Below W5.heap.size W5 Y → W6.ownsRow d3 3 1 (.slice (some ⟨o, 0, none⟩) edges.length edges.length) edges.length (intVals edges) → Below W6.heap.size W6 Y → Below w.heap.size w Y → Calls Tryz.prog 9 #[.agg #[.slice (some ⟨g1, 0, none⟩) ss.length ss.length, .int .i64 n, .slice (some ⟨g2, 0, none⟩) es.length es.length], heV p vs.length vs.length q zs.length zs.length, .slice (some ⟨o, 0, none⟩) edges.length edges.length] Y (FollowL p1 c1 c2 ps qs Y) from fun d1 d2 d3 g1 g2 o W4 W5 W6 Y p q lo hi h1 h2 h4 hin h5 ho h6 hY =>
    (specFollow _ _ ss n _ _ es p q _ _ vs zs _ _ edges Y ⟨HSS.out.1, HSS.out.2, ((Row.owned h1).below h4).grow h4.size⟩ hn ⟨by unfold maxLen; omega, ((Row.ownedN h2).below h4).grow h4.size⟩ hlv hlz (hin.rows.below h5 (Nat.le_refl _)) (nil_len hin.rows).1 (nil_len hin.rows).2 (by unfold maxLen; omega) (((Row.owned ho).below h6).grow h6.size) HEW.out).mono fun _ _ he => by
      rw [hfol] at he
      obtain ⟨xa, xc, xb, xd, e1, e2, e3⟩ := he
      exact ⟨_, xa, xc, xb, xd, Nat.le_refl _, e1, e2, e3⟩)
  have HIX := Lib.hid (show ∀ (d1 d2 d3 g1 g2 o : Nat) (W4 W5 W6 Y : World) (p q : Option Addr) (lo hi : Nat), W4.ownsRow d1 9 1 (.slice (some ⟨g1, 0, none⟩) ss.length ss.length) ss.length (strVals ss) → W4.ownsRow d2 85 5 (.slice (some ⟨g2, 0, none⟩) es.length es.length) es.length (edVals es) → Below W4.heap.size W4 Y → HeapIn lo hi W5 p vs.length q zs.length (intVals vs) (intVals zs) → Below W5.heap.size W5 Y → W6.ownsRow d3 3 1 (.slice (some ⟨o, 0, none⟩) edges.length edges.length) edges.length (intVals edges) → Below W6.heap.size W6 Y → Below w.heap.size w Y → Calls Tryz.prog 8 #[.agg #[.slice (some ⟨g1, 0, none⟩) ss.length ss.length, .int .i64 n, .slice (some ⟨g2, 0, none⟩) es.length es.length], heV p vs.length vs.length q zs.length zs.length, .slice (some ⟨o, 0, none⟩) edges.length edges.length] Y (FollowL p1 c1 c2 ps qs Y) from fun d1 d2 d3 g1 g2 o W4 W5 W6 Y p q lo hi h1 h2 h4 hin h5 ho h6 hY =>
    (implFollow _ _ ss n _ _ es p q _ _ vs zs _ _ edges Y ⟨HSS.out.1, HSS.out.2, ((Row.owned h1).below h4).grow h4.size⟩ ⟨hnat3, ((Row.ownedN h2).below h4).grow h4.size⟩ hlv hlz (hin.rows.below h5 (Nat.le_refl _)) hel2 (((Row.owned ho).below h6).grow h6.size) (HARG.out _ hY).2.2.2).mono fun _ _ he => by
      rw [hfol] at he
      obtain ⟨xa, xc, xb, xd, e1, e2, e3⟩ := he
      exact ⟨_, xa, xc, xb, xd, Nat.le_refl _, e1, e2, e3⟩)
  clear hfol hfl hsum hsum3 hok1 hok3 hr hr3 hneg hlv hlz hel hsl hesl hn
  have hl3 := hK3.lt
  have HK3 := Lib.hid hK3
  clear hK3
  go_wp2
  refine Code.wp_mono (Q := After10 (prV va ss.length vc n ba es.length bc) (heV a vs.length ca b zs.length cb) (.slice ea edges.length ec) w.heap.size c1 c2 w3 p1 ps qs) ?tail10 ?reg10
  case' reg10 =>
          have HK := Lib.hid (fun W (hb : Below w3.heap.size w3 W) => HK3.out.below hb)
          go_region_held3 (fun W => (W.cell? ⟨w.heap.size, 0, none⟩ = some (.slice va ss.length vc) ∧ W.cell? ⟨w.heap.size, 1, none⟩ = some (.int .i64 n) ∧ W.cell? ⟨w.heap.size, 2, none⟩ = some (.slice ba es.length bc)) ∧ (W.cell? ⟨w.heap.size + 1, 0, none⟩ = some (.slice a vs.length ca) ∧ W.cell? ⟨w.heap.size + 1, 1, none⟩ = some (.slice b zs.length cb)))
            (first | (refine (HK.out _ ?_).five; (repeat (first | with_reducible exact Below.refl _ _ | with_reducible assumption | with_reducible refine Below.drew ?_ | with_reducible refine Below.setCell ?_ (by go_size) _ | with_reducible refine Below.alloc ?_ (by go_size) _)); done))
            (first
              | (go_at_call 24; (with_reducible refine (toProgram va vc ss n ba bc es _ (by omega) (by omega) (HARG.out _ (HK.out _ (by repeat (first | with_reducible exact Below.refl _ _ | with_reducible assumption | with_reducible refine Below.drew ?_ | with_reducible refine Below.setCell ?_ (by go_size) _ | with_reducible refine Below.alloc ?_ (by go_size) _))).b).1.1 (HARG.out _ (HK.out _ (by repeat (first | with_reducible exact Below.refl _ _ | with_reducible assumption | with_reducible refine Below.drew ?_ | with_reducible refine Below.setCell ?_ (by go_size) _ | with_reducible refine Below.alloc ?_ (by go_size) _))).b).1.2).mono ?_); rintro e w4 ⟨g1, g2, rfl, hg1, hg2, hx1, hx2, hb4⟩; have hz4 := hb4.size; (try simp [World.size_alloc, World.size_drew] at hz4); (try (refine keep_cell (p := ⟨w3.heap.size, 0, none⟩) (x := .int .i64 0) hb4 ?_ ?_ (fun za_0_1 => ?_); (focus (first | go_size | omega)); (focus (first | with_reducible exact bx0_a _ _ | with_reducible exact bx0_b _ _ | with_reducible exact bx0_c _ _)))); (try (refine keep_frozen (g := w3.heap.size) hb4 ?_ ?_ (fun zf_0_1 => ?_); (focus (first | go_size | omega)); (focus (first | with_reducible exact bxF_a _ _ | with_reducible exact bxF_b _ _ | with_reducible exact bxF_c _ _)))); (try (refine keep_cell (p := ⟨w3.heap.size, 1, none⟩) (x := .slice none 0 0) hb4 ?_ ?_ (fun zb_0_1 => ?_); (focus (first | go_size | omega)); (focus (first | with_reducible exact bx1_a _ _ | with_reducible exact bx1_b _ _ | with_reducible exact bx1_c _ _)))); (try (refine keep_cell (p := ⟨w3.heap.size, 2, none⟩) (x := .slice none 0 0) hb4 ?_ ?_ (fun zc_0_1 => ?_); (focus (first | go_size | omega)); (focus (first | with_reducible exact bx2_a _ _ | with_reducible exact bx2_b _ _ | with_reducible exact bx2_c _ _)))); have H4 : Below w3.heap.size w3 w4 := Below.trans (by repeat (first | with_reducible exact Below.refl _ _ | with_reducible assumption | with_reducible refine Below.drew ?_ | with_reducible refine Below.setCell ?_ (by go_size) _ | with_reducible refine Below.alloc ?_ (by go_size) _)) (hb4.mono (by go_size)))
              | (go_at_call 25; (with_reducible refine (toHeap a b ca cb vs zs _ (by omega) (by omega) (HARG.out _ (HK.out _ (by repeat (first | with_reducible exact Below.refl _ _ | with_reducible assumption | with_reducible refine Below.drew ?_ | with_reducible refine Below.setCell ?_ (by go_size) _ | with_reducible refine Below.alloc ?_ (by go_size) _))).b).2.1).mono ?_); rintro e w5 ⟨p, q, rfl, hin5, hb5⟩; have hz5 := hb5.size; (try simp [World.size_alloc, World.size_drew] at hz5); (try (refine keep_cell (p := ⟨w3.heap.size, 0, none⟩) (x := .int .i64 0) hb5 ?_ ?_ (fun za_0_2 => ?_); (focus (first | go_size | omega)); (focus (first | with_reducible exact za_0_1 | with_reducible exact bx0_a _ _ | with_reducible exact bx0_b _ _ | with_reducible exact bx0_c _ _)))); (try (refine keep_frozen (g := w3.heap.size) hb5 ?_ ?_ (fun zf_0_2 => ?_); (focus (first | go_size | omega)); (focus (first | with_reducible exact zf_0_1 | with_reducible exact bxF_a _ _ | with_reducible exact bxF_b _ _ | with_reducible exact bxF_c _ _)))); (try (refine keep_cell (p := ⟨w3.heap.size, 1, none⟩) (x := .slice none 0 0) hb5 ?_ ?_ (fun zb_0_2 => ?_); (focus (first | go_size | omega)); (focus (first | with_reducible exact zb_0_1 | with_reducible exact bx1_a _ _ | with_reducible exact bx1_b _ _ | with_reducible exact bx1_c _ _)))); (try (refine keep_cell (p := ⟨w3.heap.size, 2, none⟩) (x := .slice none 0 0) hb5 ?_ ?_ (fun zc_0_2 => ?_); (focus (first | go_size | omega)); (focus (first | with_reducible exact zc_0_1 | with_reducible exact bx2_a _ _ | with_reducible exact bx2_b _ _ | with_reducible exact bx2_c _ _)))); (try (refine keep_cell (p := ⟨w4.heap.size, 0, none⟩) (x := .int .i64 0) hb5 ?_ ?_ (fun za_1_2 => ?_); (focus (first | go_size | omega)); (focus (first | with_reducible exact bx0_a _ _ | with_reducible exact bx0_b _ _ | with_reducible exact bx0_c _ _)))); (try (refine keep_frozen (g := w4.heap.size) hb5 ?_ ?_ (fun zf_1_2 => ?_); (focus (first | go_size | omega)); (focus (first | with_reducible exact bxF_a _ _ | with_reducible exact bxF_b _ _ | with_reducible exact bxF_c _ _)))); (try (refine keep_cell (p := ⟨w4.heap.size, 1, none⟩) (x := .slice none 0 0) hb5 ?_ ?_ (fun zb_1_2 => ?_); (focus (first | go_size | omega)); (focus (first | with_reducible exact bx1_a _ _ | with_reducible exact bx1_b _ _ | with_reducible exact bx1_c _ _)))); (try (refine keep_cell (p := ⟨w4.heap.size, 2, none⟩) (x := .slice none 0 0) hb5 ?_ ?_ (fun zc_1_2 => ?_); (focus (first | go_size | omega)); (focus (first | with_reducible exact bx2_a _ _ | with_reducible exact bx2_b _ _ | with_reducible exact bx2_c _ _)))); have H45 : Below w4.heap.size w4 w5 := Below.trans (by repeat (first | with_reducible exact Below.refl _ _ | with_reducible assumption | with_reducible refine Below.drew ?_ | with_reducible refine Below.setCell ?_ (by go_size) _ | with_reducible refine Below.alloc ?_ (by go_size) _)) (hb5.mono (by go_size)); have H5 := H4.trans (H45.mono H4.size))
              | (go_at_call 26; (with_reducible refine (toIntsL ea ec edges _ (by omega) (HARG.out _ (HK.out _ (by repeat (first | with_reducible exact Below.refl _ _ | with_reducible assumption | with_reducible refine Below.drew ?_ | with_reducible refine Below.setCell ?_ (by go_size) _ | with_reducible refine Below.alloc ?_ (by go_size) _))).b).2.2.1).mono ?_); rintro e w6 ⟨o, ho6, rfl, hx6, hb6⟩; have hz6 := hb6.size; (try simp [World.size_alloc, World.size_drew] at hz6); (try (refine keep_cell (p := ⟨w3.heap.size, 0, none⟩) (x := .int .i64 0) hb6 ?_ ?_ (fun za_0_3 => ?_); (focus (first | go_size | omega)); (focus (first | with_reducible exact za_0_2 | with_reducible exact bx0_a _ _ | with_reducible exact bx0_b _ _ | with_reducible exact bx0_c _ _)))); (try (refine keep_frozen (g := w3.heap.size) hb6 ?_ ?_ (fun zf_0_3 => ?_); (focus (first | go_size | omega)); (focus (first | with_reducible exact zf_0_2 | with_reducible exact bxF_a _ _ | with_reducible exact bxF_b _ _ | with_reducible exact bxF_c _ _)))); (try (refine keep_cell (p := ⟨w3.heap.size, 1, none⟩) (x := .slice none 0 0) hb6 ?_ ?_ (fun zb_0_3 => ?_); (focus (first | go_size | omega)); (focus (first | with_reducible exact zb_0_2 | with_reducible exact bx1_a _ _ | with_reducible exact bx1_b _ _ | with_reducible exact bx1_c _ _)))); (try (refine keep_cell (p := ⟨w3.heap.size, 2, none⟩) (x := .slice none 0 0) hb6 ?_ ?_ (fun zc_0_3 => ?_); (focus (first | go_size | omega)); (focus (first | with_reducible exact zc_0_2 | with_reducible exact bx2_a _ _ | with_reducible exact bx2_b _ _ | with_reducible exact bx2_c _ _)))); (try (refine keep_cell (p := ⟨w4.heap.size, 0, none⟩) (x := .int .i64 0) hb6 ?_ ?_ (fun za_1_3 => ?_); (focus (first | go_size | omega)); (focus (first | with_reducible exact za_1_2 | with_reducible exact bx0_a _ _ | with_reducible exact bx0_b _ _ | with_reducible exact bx0_c _ _)))); (try (refine keep_frozen (g := w4.heap.size) hb6 ?_ ?_ (fun zf_1_3 => ?_); (focus (first | go_size | omega)); (focus (first | with_reducible exact zf_1_2 | with_reducible exact bxF_a _ _ | with_reducible exact bxF_b _ _ | with_reducible exact bxF_c _ _)))); (try (refine keep_cell (p := ⟨w4.heap.size, 1, none⟩) (x := .slice none 0 0) hb6 ?_ ?_ (fun zb_1_3 => ?_); (focus (first | go_size | omega)); (focus (first | with_reducible exact zb_1_2 | with_reducible exact bx1_a _ _ | with_reducible exact bx1_b _ _ | with_reducible exact bx1_c _ _)))); (try (refine keep_cell (p := ⟨w4.heap.size, 2, none⟩) (x := .slice none 0 0) hb6 ?_ ?_ (fun zc_1_3 => ?_); (focus (first | go_size | omega)); (focus (first | with_reducible exact zc_1_2 | with_reducible exact bx2_a _ _ | with_reducible exact bx2_b _ _ | with_reducible exact bx2_c _ _)))); (try (refine keep_cell (p := ⟨w5.heap.size, 0, none⟩) (x := .int .i64 0) hb6 ?_ ?_ (fun za_2_3 => ?_); (focus (first | go_size | omega)); (focus (first | with_reducible exact bx0_a _ _ | with_reducible exact bx0_b _ _ | with_reducible exact bx0_c _ _)))); (try (refine keep_frozen (g := w5.heap.size) hb6 ?_ ?_ (fun zf_2_3 => ?_); (focus (first | go_size | omega)); (focus (first | with_reducible exact bxF_a _ _ | with_reducible exact bxF_b _ _ | with_reducible exact bxF_c _ _)))); (try (refine keep_cell (p := ⟨w5.heap.size, 1, none⟩) (x := .slice none 0 0) hb6 ?_ ?_ (fun zb_2_3 => ?_); (focus (first | go_size | omega)); (focus (first | with_reducible exact bx1_a _ _ | with_reducible exact bx1_b _ _ | with_reducible exact bx1_c _ _)))); (try (refine keep_cell (p := ⟨w5.heap.size, 2, none⟩) (x := .slice none 0 0) hb6 ?_ ?_ (fun zc_2_3 => ?_); (focus (first | go_size | omega)); (focus (first | with_reducible exact bx2_a _ _ | with_reducible exact bx2_b _ _ | with_reducible exact bx2_c _ _)))); have H56 : Below w5.heap.size w5 w6 := Below.trans (by repeat (first | with_reducible exact Below.refl _ _ | with_reducible assumption | with_reducible refine Below.drew ?_ | with_reducible refine Below.setCell ?_ (by go_size) _ | with_reducible refine Below.alloc ?_ (by go_size) _)) (hb6.mono (by go_size)); have H46 := H45.trans (H56.mono H45.size); have H6 := H4.trans (H46.mono H4.size))
              | (go_at_call 9; (refine Calls.mono (HSX.out _ _ _ g1 g2 o w4 w5 w6 _ p q _ _ hx1 hx2 ?_ hin5 ?_ hx6 ?_ ?_) ?_); (focus ((repeat (first | with_reducible exact Below.refl _ _ | with_reducible assumption | with_reducible refine Below.drew ?_ | with_reducible refine Below.setCell ?_ (by go_size) _ | with_reducible refine Below.alloc ?_ (by go_size) _)); done)); (focus ((repeat (first | with_reducible exact Below.refl _ _ | with_reducible assumption | with_reducible refine Below.drew ?_ | with_reducible refine Below.setCell ?_ (by go_size) _ | with_reducible refine Below.alloc ?_ (by go_size) _)); done)); (focus ((repeat (first | with_reducible exact Below.refl _ _ | with_reducible assumption | with_reducible refine Below.drew ?_ | with_reducible refine Below.setCell ?_ (by go_size) _ | with_reducible refine Below.alloc ?_ (by go_size) _)); done)); (focus (refine (HK.out _ ?_).b; (repeat (first | with_reducible exact Below.refl _ _ | with_reducible assumption | with_reducible refine Below.drew ?_ | with_reducible refine Below.setCell ?_ (by go_size) _ | with_reducible refine Below.alloc ?_ (by go_size) _)); done)); rintro e w7 ⟨lo9, xa, xca, xb, xcb, hlo9, rfl, hin9, hb7⟩; (try simp [World.size_alloc, World.size_drew] at hlo9); have hz7 := hb7.size; (try simp [World.size_alloc, World.size_drew] at hz7); (try (refine keep_cell (p := ⟨w3.heap.size, 0, none⟩) (x := .int .i64 0) hb7 ?_ ?_ (fun za_0_4 => ?_); (focus (first | go_size | omega)); (focus (first | with_reducible exact za_0_3 | with_reducible exact bx0_a _ _ | with_reducible exact bx0_b _ _ | with_reducible exact bx0_c _ _)))); (try (refine keep_frozen (g := w3.heap.size) hb7 ?_ ?_ (fun zf_0_4 => ?_); (focus (first | go_size | omega)); (focus (first | with_reducible exact zf_0_3 | with_reducible exact bxF_a _ _ | with_reducible exact bxF_b _ _ | with_reducible exact bxF_c _ _)))); (try (refine keep_cell (p := ⟨w3.heap.size, 1, none⟩) (x := .slice none 0 0) hb7 ?_ ?_ (fun zb_0_4 => ?_); (focus (first | go_size | omega)); (focus (first | with_reducible exact zb_0_3 | with_reducible exact bx1_a _ _ | with_reducible exact bx1_b _ _ | with_reducible exact bx1_c _ _)))); (try (refine keep_cell (p := ⟨w3.heap.size, 2, none⟩) (x := .slice none 0 0) hb7 ?_ ?_ (fun zc_0_4 => ?_); (focus (first | go_size | omega)); (focus (first | with_reducible exact zc_0_3 | with_reducible exact bx2_a _ _ | with_reducible exact bx2_b _ _ | with_reducible exact bx2_c _ _)))); (try (refine keep_cell (p := ⟨w4.heap.size, 0, none⟩) (x := .int .i64 0) hb7 ?_ ?_ (fun za_1_4 => ?_); (focus (first | go_size | omega)); (focus (first | with_reducible exact za_1_3 | with_reducible exact bx0_a _ _ | with_reducible exact bx0_b _ _ | with_reducible exact bx0_c _ _)))); (try (refine keep_frozen (g := w4.heap.size) hb7 ?_ ?_ (fun zf_1_4 => ?_); (focus (first | go_size | omega)); (focus (first | with_reducible exact zf_1_3 | with_reducible exact bxF_a _ _ | with_reducible exact bxF_b _ _ | with_reducible exact bxF_c _ _)))); (try (refine keep_cell (p := ⟨w4.heap.size, 1, none⟩) (x := .slice none 0 0) hb7 ?_ ?_ (fun zb_1_4 => ?_); (focus (first | go_size | omega)); (focus (first | with_reducible exact zb_1_3 | with_reducible exact bx1_a _ _ | with_reducible exact bx1_b _ _ | with_reducible exact bx1_c _ _)))); (try (refine keep_cell (p := ⟨w4.heap.size, 2, none⟩) (x := .slice none 0 0) hb7 ?_ ?_ (fun zc_1_4 => ?_); (focus (first | go_size | omega)); (focus (first | with_reducible exact zc_1_3 | with_reducible exact bx2_a _ _ | with_reducible exact bx2_b _ _ | with_reducible exact bx2_c _ _)))); (try (refine keep_cell (p := ⟨w5.heap.size, 0, none⟩) (x := .int .i64 0) hb7 ?_ ?_ (fun za_2_4 => ?_); (focus (first | go_size | omega)); (focus (first | with_reducible exact za_2_3 | with_reducible exact bx0_a _ _ | with_reducible exact bx0_b _ _ | with_reducible exact bx0_c _ _)))); (try (refine keep_frozen (g := w5.heap.size) hb7 ?_ ?_ (fun zf_2_4 => ?_); (focus (first | go_size | omega)); (focus (first | with_reducible exact zf_2_3 | with_reducible exact bxF_a _ _ | with_reducible exact bxF_b _ _ | with_reducible exact bxF_c _ _)))); (try (refine keep_cell (p := ⟨w5.heap.size, 1, none⟩) (x := .slice none 0 0) hb7 ?_ ?_ (fun zb_2_4 => ?_); (focus (first | go_size | omega)); (focus (first | with_reducible exact zb_2_3 | with_reducible exact bx1_a _ _ | with_reducible exact bx1_b _ _ | with_reducible exact bx1_c _ _)))); (try (refine keep_cell (p := ⟨w5.heap.size, 2, none⟩) (x := .slice none 0 0) hb7 ?_ ?_ (fun zc_2_4 => ?_); (focus (first | go_size | omega)); (focus (first | with_reducible exact zc_2_3 | with_reducible exact bx2_a _ _ | with_reducible exact bx2_b _ _ | with_reducible exact bx2_c _ _)))); (try (refine keep_cell (p := ⟨w6.heap.size, 0, none⟩) (x := .int .i64 0) hb7 ?_ ?_ (fun za_3_4 => ?_); (focus (first | go_size | omega)); (focus (first | with_reducible exact bx0_a _ _ | with_reducible exact bx0_b _ _ | with_reducible exact bx0_c _ _)))); (try (refine keep_frozen (g := w6.heap.size) hb7 ?_ ?_ (fun zf_3_4 => ?_); (focus (first | go_size | omega)); (focus (first | with_reducible exact bxF_a _ _ | with_reducible exact bxF_b _ _ | with_reducible exact bxF_c _ _)))); (try (refine keep_cell (p := ⟨w6.heap.size, 1, none⟩) (x := .slice none 0 0) hb7 ?_ ?_ (fun zb_3_4 => ?_); (focus (first | go_size | omega)); (focus (first | with_reducible exact bx1_a _ _ | with_reducible exact bx1_b _ _ | with_reducible exact bx1_c _ _)))); (try (refine keep_cell (p := ⟨w6.heap.size, 2, none⟩) (x := .slice none 0 0) hb7 ?_ ?_ (fun zc_3_4 => ?_); (focus (first | go_size | omega)); (focus (first | with_reducible exact bx2_a _ _ | with_reducible exact bx2_b _ _ | with_reducible exact bx2_c _ _)))); have H9 : Below w3.heap.size w3 w7 := Below.trans (by repeat (first | with_reducible exact Below.refl _ _ | with_reducible assumption | with_reducible refine Below.drew ?_ | with_reducible refine Below.setCell ?_ (by go_size) _ | with_reducible refine Below.alloc ?_ (by go_size) _)) (hb7.mono (by go_size))))
          all_goals
            have hbl9 := hin9.blocks
            try simp only at hbl9
            first
              | (have box9 : BoxL w7 w3.heap.size [.int .i64 0, .slice none 0 0, .slice none 0 0] := box3_of (by assumption) (by assumption) (by assumption) (by assumption) (by go_size)
                 have hneR : ∀ k, blocksH xa xb ps.length xca qs.length xcb k → k ≠ w3.heap.size := fun k hk e => by have := hbl9 k hk; omega
                 have hinR := (((hin9.setNot (i := 0) (u := (.int .i64 p1)) hneR).setNot (i := 1) (u := (.slice xa ps.length xca)) hneR).setNot (i := 2) (u := (.slice xb qs.length xcb)) hneR)
                 have boxR := ((box9.set 0 (.int .i64 p1)).set 1 (.slice xa ps.length xca)).set 2 (.slice xb qs.length xcb)
                 have hBR : Below w3.heap.size w3 (((w7.setCell ⟨w3.heap.size, 0, none⟩ (.int .i64 p1)).setCell ⟨w3.heap.size, 1, none⟩ (.slice xa ps.length xca)).setCell ⟨w3.heap.size, 2, none⟩ (.slice xb qs.length xcb)) := ((H9.setCell (by show w3.heap.size ≤ w3.heap.size; omega) _).setCell (by show w3.heap.size ≤ w3.heap.size; omega) _).setCell (by show w3.heap.size ≤ w3.heap.size; omega) _
                 have hsR : (((w7.setCell ⟨w3.heap.size, 0, none⟩ (.int .i64 p1)).setCell ⟨w3.heap.size, 1, none⟩ (.slice xa ps.length xca)).setCell ⟨w3.heap.size, 2, none⟩ (.slice xb qs.length xcb)).heap.size = w7.heap.size := by simp
                 exact ⟨rfl, _, lo9, w7.heap.size, xa, xca, xb, xcb, _, _, _, _, _, _, _, _, _, _, _, _, _, _, _, _, _, _, _, _, _, _, _, _, _, rfl, ⟨boxR, hinR, .inl (by omega), by omega, by omega, by omega, by omega, by omega⟩, hBR⟩)
              | (have box9 : BoxL w7 w4.heap.size [.int .i64 0, .slice none 0 0, .slice none 0 0] := box3_of (by assumption) (by assumption) (by assumption) (by assumption) (by go_size)
                 have hneR : ∀ k, blocksH xa xb ps.length xca qs.length xcb k → k ≠ w4.heap.size := fun k hk e => by have := hbl9 k hk; omega
                 have hinR := (((hin9.setNot (i := 0) (u := (.int .i64 p1)) hneR).setNot (i := 1) (u := (.slice xa ps.length xca)) hneR).setNot (i := 2) (u := (.slice xb qs.length xcb)) hneR)
                 have boxR := ((box9.set 0 (.int .i64 p1)).set 1 (.slice xa ps.length xca)).set 2 (.slice xb qs.length xcb)
                 have hBR : Below w3.heap.size w3 (((w7.setCell ⟨w4.heap.size, 0, none⟩ (.int .i64 p1)).setCell ⟨w4.heap.size, 1, none⟩ (.slice xa ps.length xca)).setCell ⟨w4.heap.size, 2, none⟩ (.slice xb qs.length xcb)) := ((H9.setCell (by show w3.heap.size ≤ w4.heap.size; omega) _).setCell (by show w3.heap.size ≤ w4.heap.size; omega) _).setCell (by show w3.heap.size ≤ w4.heap.size; omega) _
                 have hsR : (((w7.setCell ⟨w4.heap.size, 0, none⟩ (.int .i64 p1)).setCell ⟨w4.heap.size, 1, none⟩ (.slice xa ps.length xca)).setCell ⟨w4.heap.size, 2, none⟩ (.slice xb qs.length xcb)).heap.size = w7.heap.size := by simp
                 exact ⟨rfl, _, lo9, w7.heap.size, xa, xca, xb, xcb, _, _, _, _, _, _, _, _, _, _, _, _, _, _, _, _, _, _, _, _, _, _, _, _, _, rfl, ⟨boxR, hinR, .inl (by omega), by omega, by omega, by omega, by omega, by omega⟩, hBR⟩)
              | (have box9 : BoxL w7 w5.heap.size [.int .i64 0, .slice none 0 0, .slice none 0 0] := box3_of (by assumption) (by assumption) (by assumption) (by assumption) (by go_size)
                 have hneR : ∀ k, blocksH xa xb ps.length xca qs.length xcb k → k ≠ w5.heap.size := fun k hk e => by have := hbl9 k hk; omega
                 have hinR := (((hin9.setNot (i := 0) (u := (.int .i64 p1)) hneR).setNot (i := 1) (u := (.slice xa ps.length xca)) hneR).setNot (i := 2) (u := (.slice xb qs.length xcb)) hneR)
                 have boxR := ((box9.set 0 (.int .i64 p1)).set 1 (.slice xa ps.length xca)).set 2 (.slice xb qs.length xcb)
                 have hBR : Below w3.heap.size w3 (((w7.setCell ⟨w5.heap.size, 0, none⟩ (.int .i64 p1)).setCell ⟨w5.heap.size, 1, none⟩ (.slice xa ps.length xca)).setCell ⟨w5.heap.size, 2, none⟩ (.slice xb qs.length xcb)) := ((H9.setCell (by show w3.heap.size ≤ w5.heap.size; omega) _).setCell (by show w3.heap.size ≤ w5.heap.size; omega) _).setCell (by show w3.heap.size ≤ w5.heap.size; omega) _
                 have hsR : (((w7.setCell ⟨w5.heap.size, 0, none⟩ (.int .i64 p1)).setCell ⟨w5.heap.size, 1, none⟩ (.slice xa ps.length xca)).setCell ⟨w5.heap.size, 2, none⟩ (.slice xb qs.length xcb)).heap.size = w7.heap.size := by simp
                 exact ⟨rfl, _, lo9, w7.heap.size, xa, xca, xb, xcb, _, _, _, _, _, _, _, _, _, _, _, _, _, _, _, _, _, _, _, _, _, _, _, _, _, rfl, ⟨boxR, hinR, .inl (by omega), by omega, by omega, by omega, by omega, by omega⟩, hBR⟩)
              | (have box9 : BoxL w7 w6.heap.size [.int .i64 0, .slice none 0 0, .slice none 0 0] := box3_of (by assumption) (by assumption) (by assumption) (by assumption) (by go_size)
                 have hneR : ∀ k, blocksH xa xb ps.length xca qs.length xcb k → k ≠ w6.heap.size := fun k hk e => by have := hbl9 k hk; omega
                 have hinR := (((hin9.setNot (i := 0) (u := (.int .i64 p1)) hneR).setNot (i := 1) (u := (.slice xa ps.length xca)) hneR).setNot (i := 2) (u := (.slice xb qs.length xcb)) hneR)
                 have boxR := ((box9.set 0 (.int .i64 p1)).set 1 (.slice xa ps.length xca)).set 2 (.slice xb qs.length xcb)
                 have hBR : Below w3.heap.size w3 (((w7.setCell ⟨w6.heap.size, 0, none⟩ (.int .i64 p1)).setCell ⟨w6.heap.size, 1, none⟩ (.slice xa ps.length xca)).setCell ⟨w6.heap.size, 2, none⟩ (.slice xb qs.length xcb)) := ((H9.setCell (by show w3.heap.size ≤ w6.heap.size; omega) _).setCell (by show w3.heap.size ≤ w6.heap.size; omega) _).setCell (by show w3.heap.size ≤ w6.heap.size; omega) _
                 have hsR : (((w7.setCell ⟨w6.heap.size, 0, none⟩ (.int .i64 p1)).setCell ⟨w6.heap.size, 1, none⟩ (.slice xa ps.length xca)).setCell ⟨w6.heap.size, 2, none⟩ (.slice xb qs.length xcb)).heap.size = w7.heap.size := by simp
                 exact ⟨rfl, _, lo9, w7.heap.size, xa, xca, xb, xcb, _, _, _, _, _, _, _, _, _, _, _, _, _, _, _, _, _, _, _, _, _, _, _, _, _, rfl, ⟨boxR, hinR, .inl (by omega), by omega, by omega, by omega, by omega, by omega⟩, hBR⟩)
              | (have hal := (Below.refl w7.heap.size w7).alloc (Nat.le_refl _) (.cells #[.int .i64 p1, .slice xa ps.length xca, .slice xb qs.length xcb] 34)
                 have boxR : BoxL (w7.alloc (.cells #[.int .i64 p1, .slice xa ps.length xca, .slice xb qs.length xcb] 34)) w7.heap.size [.int .i64 p1, .slice xa ps.length xca, .slice xb qs.length xcb] := BoxL.new w7 _ _
                 have hinR := hin9.below hal
                 have hBR := H9.trans (hal.mono H9.size)
                 have hsR : (w7.alloc (.cells #[.int .i64 p1, .slice xa ps.length xca, .slice xb qs.length xcb] 34)).heap.size = w7.heap.size + 1 := by simp
                 exact ⟨rfl, _, lo9, w7.heap.size, xa, xca, xb, xcb, _, _, _, _, _, _, _, _, _, _, _, _, _, _, _, _, _, _, _, _, _, _, _, _, _, rfl, ⟨boxR, hinR, .inr (Nat.le_refl _), by omega, by omega, by omega, by omega, by omega⟩, hBR⟩)

  case' tail10 =>
    rintro e act W11 ⟨rfl, RP, lP, hP, pa, pca, pb, pcb, u7, u23, u24, u25, u26, u27, u28, u29, u30, u31, u32, u33, u34, u35, u36, u37, u38, u39, u40, u41, u42, u43, u44, u45, u46, rfl, hPs, hb11⟩
    unfold frame10
    have hz3 := hb11.size
    have hTP := hPs.top
    have K11 := Lib.hid (show ∀ W, Below W11.heap.size W11 W → Kept w (.slice va ss.length vc) (.int .i64 n) (.slice ba es.length bc) (.slice a vs.length ca) (.slice b zs.length cb) W ∧ Ans w3.heap.size W11.heap.size W RP lP hP pa pca pb pcb p1 ps qs from fun W hb => ⟨(HK3.out.below hb11).below hb, hPs.below hb⟩)
    clear hPs hb11
    have hk11 := (K11.out _ (Below.refl _ _)).1
    obtain ⟨⟨s0, s1, s2⟩, _, _⟩ := hk11.five
    go_wp2_with fail
    refine (toProgram va vc ss n ba bc es _ (by omega) (by omega) (HARG.out _ hk11.b).1.1 (HARG.out _ hk11.b).1.2).mono ?_
    rintro e w12 ⟨g1, g2, rfl, hg1, hg2, ho1, ho2, hb12⟩
    obtain ⟨W12, hW12, bx12, hal12, hz12⟩ := new_box w12 [.slice (some ⟨g1, 0, none⟩) ss.length ss.length, .int .i64 n, .slice (some ⟨g2, 0, none⟩) es.length es.length] 27
    simp only [List.toArray] at hW12
    have hs12 : W11.heap.size ≤ w12.heap.size := hb12.size
    have K12 := Lib.hid (show ∀ W, Below W12.heap.size W12 W → (OwnIn W11.heap.size w12.heap.size W 9 1 (.slice (some ⟨g1, 0, none⟩) ss.length ss.length) ss.length (strVals ss) ∧ OwnIn W11.heap.size w12.heap.size W 85 5 (.slice (some ⟨g2, 0, none⟩) es.length es.length) es.length (edVals es)) ∧ BoxL W w12.heap.size [.slice (some ⟨g1, 0, none⟩) ss.length ss.length, .int .i64 n, .slice (some ⟨g2, 0, none⟩) es.length es.length] ∧ Below W11.heap.size W11 W from fun W hb =>
      ⟨⟨(((OwnIn.of ho1).mono hg1 (Nat.le_refl _) (Nat.le_refl _)).below hal12).below hb, (((OwnIn.of ho2).mono (Nat.le_trans hg1 (Nat.le_of_lt hg2)) (Nat.le_refl _) (Nat.le_refl _)).below hal12).below hb⟩, bx12.below hb, (hb12.trans (hal12.mono hb12.size)).trans (hb.mono (Nat.le_trans hb12.size hal12.size))⟩)
    have hg1lt : g1 < w12.heap.size := (ho1.lt g1 rfl).2
    have hg2lt : g2 < w12.heap.size := (ho2.lt g2 rfl).2
    have hB12 := (K12.out _ (Below.refl _ _)).2.2
    have hk12 := (K11.out _ hB12).1
    obtain ⟨_, q0, q1⟩ := hk12.five
    clear s0 s1 s2 hk11 bx12 ho1 ho2
    go_wp2_with fail
    clear hW12 q0 q1 hal12 hb12
    refine (toHeap a b ca cb vs zs _ (by omega) (by omega) (HARG.out _ hk12.b).2.1).mono ?_
    rintro e w13 ⟨p, q, rfl, hin13, hb13⟩
    obtain ⟨W13, hW13, bx13, hal13, hz13⟩ := new_box w13 [.slice p vs.length vs.length, .slice q zs.length zs.length] 30
    simp only [List.toArray] at hW13
    have hs13 : W12.heap.size ≤ w13.heap.size := hb13.size
    have K13 := Lib.hid (show ∀ W, Below W13.heap.size W13 W → HeapIn W12.heap.size w13.heap.size W p vs.length q zs.length (intVals vs) (intVals zs) ∧ BoxL W w13.heap.size [.slice p vs.length vs.length, .slice q zs.length zs.length] ∧ Below W12.heap.size W12 W from fun W hb =>
      ⟨(hin13.below hal13).below hb, bx13.below hb, (hb13.trans (hal13.mono hb13.size)).trans (hb.mono (Nat.le_trans hb13.size hal13.size))⟩)
    clear hk12 hB12 hin13 bx13
    go_wp2_with fail
    clear hW13 hal13 hb13
    have hB13 := (K13.out _ (Below.refl _ _)).2.2
    have hk13 := (K11.out _ (K12.out _ hB13).2.2).1
    refine (toIntsL ea ec edges _ (by omega) (HARG.out _ hk13.b).2.2.1).mono ?_
    rintro e w14 ⟨o, ho6, rfl, hx14, hb14⟩
    have hs14 : W13.heap.size ≤ w14.heap.size := hb14.size
    have K14 := Lib.hid (show ∀ W, Below w14.heap.size w14 W → OwnIn W13.heap.size w14.heap.size W 3 1 (.slice (some ⟨o, 0, none⟩) edges.length edges.length) edges.length (intVals edges) ∧ Below W13.heap.size W13 W from fun W hb =>
      ⟨((OwnIn.of hx14).mono ho6 (Nat.le_refl _) (Nat.le_refl _)).below hb, hb14.trans (hb.mono hb14.size)⟩)
    clear hk13 hB13 hx14 hb14
    have A14 := Lib.hid (show ∀ W, Below w14.heap.size w14 W → (Kept w (.slice va ss.length vc) (.int .i64 n) (.slice ba es.length bc) (.slice a vs.length ca) (.slice b zs.length cb) W ∧ Ans w3.heap.size W11.heap.size W RP lP hP pa pca pb pcb p1 ps qs) ∧
        ((OwnIn W11.heap.size w12.heap.size W 9 1 (.slice (some ⟨g1, 0, none⟩) ss.length ss.length) ss.length (strVals ss) ∧ OwnIn W11.heap.size w12.heap.size W 85 5 (.slice (some ⟨g2, 0, none⟩) es.length es.length) es.length (edVals es)) ∧ BoxL W w12.heap.size [.slice (some ⟨g1, 0, none⟩) ss.length ss.length, .int .i64 n, .slice (some ⟨g2, 0, none⟩) es.length es.length]) ∧
        (HeapIn W12.heap.size w13.heap.size W p vs.length q zs.length (intVals vs) (intVals zs) ∧ BoxL W w13.heap.size [.slice p vs.length vs.length, .slice q zs.length zs.length]) ∧
        OwnIn W13.heap.size w14.heap.size W 3 1 (.slice (some ⟨o, 0, none⟩) edges.length edges.length) edges.length (intVals edges) from fun W hb => by
      have h4 := K14.out W hb
      have h3 := K13.out W h4.2
      have h2 := K12.out W h3.2.2
      exact ⟨K11.out W h2.2.2, ⟨h2.1, h2.2.1⟩, ⟨h3.1, h3.2.1⟩, h4.1⟩)
    clear K11 K12 K13 K14
    obtain ⟨⟨hkA, hPA⟩, ⟨⟨hO1, hO2⟩, hbxA⟩, ⟨hinA, hbyA⟩, hO3⟩ := A14.out _ (Below.refl _ _)
    have x0 := hbxA.c 0 _ rfl
    have x1 := hbxA.c 1 _ rfl
    have x2 := hbxA.c 2 _ rfl
    have y0 := hbyA.c 0 _ rfl
    have y1 := hbyA.c 1 _ rfl
    have HHA := Lib.hid (And.intro (And.intro hkA hPA) (And.intro (And.intro hO1 hO2) (And.intro hinA hO3)))
    clear hbxA hbyA hkA hPA hO1 hO2 hinA hO3
    go_wp2_with fail
    refine Calls.mono (HIX.out _ _ _ g1 g2 o w14 w14 w14 w14 p q _ _ HHA.out.2.1.1.2.1 HHA.out.2.1.2.2.1 (Below.refl _ _) HHA.out.2.2.1 (Below.refl _ _) HHA.out.2.2.2.2.1 (Below.refl _ _) HHA.out.1.1.b) ?_
    rintro e w15 ⟨lG, ga, gca, gb, gcb, hlG, rfl, hin15, hb15⟩
    obtain ⟨W15, hW15, bx15, hal15, hz15⟩ := new_box w15 [.int .i64 p1, .slice ga ps.length gca, .slice gb qs.length gcb] 34
    simp only [List.toArray] at hW15
    have hs15 : w14.heap.size ≤ w15.heap.size := hb15.size
    have hs15' : W15.heap.size = w15.heap.size + 1 := by rw [← hW15]; simp
    have A15 := Lib.hid (show ∀ W, Below W15.heap.size W15 W → Ans w14.heap.size W15.heap.size W w15.heap.size lG w15.heap.size ga gca gb gcb p1 ps qs ∧ Below w14.heap.size w14 W from fun W hb =>
      ⟨(show Ans w14.heap.size W15.heap.size W15 w15.heap.size lG w15.heap.size ga gca gb gcb p1 ps qs from ⟨bx15, hin15.below hal15, .inr (Nat.le_refl _), hlG, hs15, Nat.le_of_lt hz15, hz15, Nat.le_refl _⟩).below hb, (hb15.trans (hal15.mono hb15.size)).trans (hb.mono (Nat.le_trans hb15.size hal15.size))⟩)
    have hA15 := A15.out _ (Below.refl _ _)
    have hPb := (A14.out _ hA15.2).1.2.box
    have gc0 := hA15.1.box.c 0 _ rfl
    have gc1 := hA15.1.box.c 1 _ rfl
    have gc2 := hA15.1.box.c 2 _ rfl
    have pc0 := hPb.c 0 _ rfl
    have pc1 := hPb.c 1 _ rfl
    have pc2 := hPb.c 2 _ rfl
    have HG15 := Lib.hid hA15.1
    have HP15 := Lib.hid (A14.out _ hA15.2).1.2
    clear x0 x1 x2 y0 y1 HHA hA15 hPb bx15 hin15
    go_wp2_with fail
    clear hW15 hal15 hb15
    refine (eqStates p1 _ _ _ _ _ _ _ _ ps qs _ (by unfold maxLen; omega) (by unfold maxLen; omega) HG15.out.hin.rows HP15.out.hin.rows).mono ?_
    rintro e w16 ⟨rfl, hb16⟩
    have A16 := Lib.hid (fun W (hb : Below w16.heap.size w16 W) => A15.out W (hb16.trans (hb.mono hb16.size)))
    clear gc0 gc1 gc2 pc0 pc1 pc2 HG15 HP15 hb16 A15
    have H16 := Lib.hid (show ∀ W, Below w16.heap.size w16 W → (W.cell? ⟨w12.heap.size, 0, none⟩ = some (.slice (some ⟨g1, 0, none⟩) ss.length ss.length) ∧ W.cell? ⟨w12.heap.size, 1, none⟩ = some (.int .i64 n) ∧ W.cell? ⟨w12.heap.size, 2, none⟩ = some (.slice (some ⟨g2, 0, none⟩) es.length es.length)) ∧ (W.cell? ⟨w.heap.size, 0, none⟩ = some (.slice va ss.length vc) ∧ W.cell? ⟨w.heap.size, 1, none⟩ = some (.int .i64 n) ∧ W.cell? ⟨w.heap.size, 2, none⟩ = some (.slice ba es.length bc)) from fun W hb => ⟨let h := (A14.out W (A16.out W hb).2).2.1.2; ⟨h.c 0 _ rfl, h.c 1 _ rfl, h.c 2 _ rfl⟩, (A14.out W (A16.out W hb).2).1.1.five.1⟩)
    have HEP := Lib.hid (fun (W : World) (hb : Below w16.heap.size w16 W) (g5 g6 d5 d6 : Nat) (h5 : W.ownsRow d5 9 1 (.slice (some ⟨g5, 0, none⟩) ss.length ss.length) ss.length (strVals ss)) (h6 : W.ownsRow d6 85 5 (.slice (some ⟨g6, 0, none⟩) es.length es.length) es.length (edVals es)) =>
      eqProgramSame (some ⟨g1, 0, none⟩) (some ⟨g2, 0, none⟩) (some ⟨g5, 0, none⟩) (some ⟨g6, 0, none⟩) ss.length es.length ss.length es.length ss n es W (by unfold maxLen; omega) (by unfold maxLen; omega) (A14.out _ (A16.out _ hb).2).2.1.1.1.row (Row.ownedN (A14.out _ (A16.out _ hb).2).2.1.1.2.2.1) (Row.owned h5) (Row.ownedN h6))
    have hD : Below w16.heap.size w16 w16.drew := Below.drew (Below.refl _ _)
    go_wp2
    go_region_held3 (fun W => (W.cell? ⟨w12.heap.size, 0, none⟩ = some (.slice (some ⟨g1, 0, none⟩) ss.length ss.length) ∧ W.cell? ⟨w12.heap.size, 1, none⟩ = some (.int .i64 n) ∧ W.cell? ⟨w12.heap.size, 2, none⟩ = some (.slice (some ⟨g2, 0, none⟩) es.length es.length)) ∧ (W.cell? ⟨w.heap.size, 0, none⟩ = some (.slice va ss.length vc) ∧ W.cell? ⟨w.heap.size, 1, none⟩ = some (.int .i64 n) ∧ W.cell? ⟨w.heap.size, 2, none⟩ = some (.slice ba es.length bc)))
      (first | exact H16.out _ hD | exact H16.out _ (Below.drew hD) | exact H16.out _ H7 | exact H16.out _ H8)
      (first
        | (go_at_call 24; (with_reducible refine (toProgram va vc ss n ba bc es _ (by omega) (by omega) (HARG.out _ (A14.out _ (A16.out _ hD).2).1.1.b).1.1 (HARG.out _ (A14.out _ (A16.out _ hD).2).1.1.b).1.2).mono ?_); rintro e w17 ⟨g5, g6, rfl, hg5, hg6, ho5, ho6', hb17⟩; have H7 := hD.trans (hb17.mono hD.size))
        | (go_at_call 28; (refine (HEP.out _ H7 _ _ _ _ ho5 ho6').mono ?_); rintro e w18 ⟨rfl, hb18⟩; have H8 := H7.trans (hb18.mono H7.size)))
    have A18 := Lib.hid (fun W (hb : Below w18.heap.size w18 W) => A16.out W (H8.trans (hb.mono H8.size)))
    clear hb17 hb18 H7 H8 hD H16 ho5 ho6' hg5 hg6 A16
    have H18 := Lib.hid (show ∀ W, Below w18.heap.size w18 W → (W.cell? ⟨w13.heap.size, 0, none⟩ = some (.slice p vs.length vs.length) ∧ W.cell? ⟨w13.heap.size, 1, none⟩ = some (.slice q zs.length zs.length)) ∧ (W.cell? ⟨w.heap.size + 1, 0, none⟩ = some (.slice a vs.length ca) ∧ W.cell? ⟨w.heap.size + 1, 1, none⟩ = some (.slice b zs.length cb)) from fun W hb => ⟨let h := (A14.out W (A18.out W hb).2).2.2.1.2; ⟨h.c 0 _ rfl, h.c 1 _ rfl⟩, (A14.out W (A18.out W hb).2).1.1.five.2⟩)
    have HEH := Lib.hid (fun (W : World) (hb : Below w18.heap.size w18 W) (p7 q7 : Option Addr) {l7 h7 : Nat} (h : HeapIn l7 h7 W p7 vs.length q7 zs.length (intVals vs) (intVals zs)) =>
      eqHeaps p q p7 q7 vs.length zs.length vs.length zs.length vs zs W (by unfold maxLen; omega) (by unfold maxLen; omega) (A14.out _ (A18.out _ hb).2).2.2.1.1.rows h.rows)
    have hD : Below w18.heap.size w18 w18.drew := Below.drew (Below.refl _ _)
    go_wp2
    go_region_held3 (fun W => (W.cell? ⟨w13.heap.size, 0, none⟩ = some (.slice p vs.length vs.length) ∧ W.cell? ⟨w13.heap.size, 1, none⟩ = some (.slice q zs.length zs.length)) ∧ (W.cell? ⟨w.heap.size + 1, 0, none⟩ = some (.slice a vs.length ca) ∧ W.cell? ⟨w.heap.size + 1, 1, none⟩ = some (.slice b zs.length cb)))
      (first | exact H18.out _ hD | exact H18.out _ (Below.drew hD) | exact H18.out _ H7 | exact H18.out _ H8)
      (first
        | (go_at_call 25; (with_reducible refine (toHeap a b ca cb vs zs _ (by omega) (by omega) (HARG.out _ (A14.out _ (A18.out _ hD).2).1.1.b).2.1).mono ?_); rintro e w19 ⟨p7, q7, rfl, hin7, hb19⟩; have H7 := hD.trans (hb19.mono hD.size))
        | (go_at_call 29; (refine (HEH.out _ H7 _ _ hin7).mono ?_); rintro e w20 ⟨rfl, hb20⟩; have H8 := H7.trans (hb20.mono H7.size)))
    have A20 := Lib.hid (fun W (hb : Below w20.heap.size w20 W) => A18.out W (H8.trans (hb.mono H8.size)))
    clear hb19 hb20 H7 H8 hD H18 hin7 A18
    have hA20 := (A14.out _ (A20.out _ (Below.refl _ _)).2).1.1
    go_wp2_with fail
    refine (toIntsL ea ec edges _ (by omega) (HARG.out _ hA20.b).2.2.1).mono ?_
    rintro e w21 ⟨o21, _, rfl, hx21, hb21⟩
    have hx20 := (A14.out _ (A20.out _ hb21).2).2.2.2.row
    have HR21 := Lib.hid (And.intro hx20 (Row.owned hx21))
    have A21 := Lib.hid (fun W (hb : Below w21.heap.size w21 W) => A20.out W (hb21.trans (hb.mono hb21.size)))
    clear hx20 hx21 hb21 hA20 A20
    go_wp2_with fail
    refine (eqRow _ _ _ _ edges _ (by unfold maxLen; omega) HR21.out.1 HR21.out.2).mono ?_
    rintro e w22 ⟨rfl, hb22⟩
    have hA22 := A21.out _ hb22
    have hB22 := A14.out _ hA22.2
    have hbx := hB22.2.1.2
    have x0 := hbx.c 0 _ rfl
    have x1 := hbx.c 1 _ rfl
    have x2 := hbx.c 2 _ rfl
    have ev := intVals_length vs
    have ez := intVals_length zs
    have eps := intVals_length ps
    have eqs := intVals_length qs
    have HA22 := Lib.hid hA22.1
    have HB22 := Lib.hid hB22
    have hgt : ∀ j, (Value.slice (some ⟨g1, 0, none⟩) ss.length ss.length).ownBlock = some j → (Value.slice (some ⟨g2, 0, none⟩) es.length es.length).ownBlock ≠ some j := fun j h1 h2 => by
      have e1 : g1 = j := Option.some.inj h1
      have e2 : g2 = j := Option.some.inj h2
      omega
    have HGT := Lib.hid hgt
    clear hbx hA22 hB22 hb22 HR21 A21 A14 hgt
    go_wp2_with fail
    refine (markProgram W11.heap.size W11.heap.size 1 ss.length es.length _ _ _ _ _ _ n _ (by omega) (by omega) (by omega) HB22.out.2.1.1.1.2.1 HB22.out.2.1.1.2.2.1 HGT.out).mono ?_
    rintro e w23 ⟨rfl, _, _, hmz, hmo, hmt, hmp, hmb⟩
    have t23 : Turn W11.heap.size w12.heap.size w22 w23 := ⟨hmo, hmt, hmp, hmz, fun j hj hd => hmb j hj (fun h => by have e1 : g1 = j := Option.some.inj h; omega) (fun h => by have e1 : g2 = j := Option.some.inj h; omega)⟩
    have HK23 := Lib.hid (HB22.out.1.1.turn t23 (by omega))
    have HP23 := Lib.hid (HB22.out.1.2.turn t23 (.inr (by omega)))
    have HG23 := Lib.hid (HA22.out.turn t23 (.inl (by omega)))
    have HI23 := Lib.hid (HB22.out.2.2.1.1.turn t23 (.inr (by omega)))
    have HO23 := Lib.hid (HB22.out.2.2.2.turn t23 (.inr (by omega)))
    have hby := HB22.out.2.2.1.2.turn t23 (.inr (by omega))
    have y0 := hby.c 0 _ rfl
    have y1 := hby.c 1 _ rfl
    clear x0 x1 x2 hby hmz hmo hmt hmp hmb t23 HB22 HA22 HGT
    go_wp2_with fail
    refine (markHeap W12.heap.size w13.heap.size (1 + ss.length + es.length * 5) vs.length zs.length _ _ _ _ _ _ _ ev ez (by omega) (by omega) (by omega) HI23.out).mono ?_
    rintro e w30 ⟨rfl, _, t30⟩
    have HK30 := Lib.hid (HK23.out.turn t30 (by omega))
    have HP30 := Lib.hid (HP23.out.turn t30 (.inr (by omega)))
    have HG30 := Lib.hid (HG23.out.turn t30 (.inl (by omega)))
    have HO30 := Lib.hid (HO23.out.turn t30 (.inr (by omega)))
    clear y0 y1 t30 HK23 HP23 HG23 HO23 HI23
    go_wp2_with fail
    refine (markRow W13.heap.size w14.heap.size (1 + ss.length + es.length * 5 + vs.length + zs.length) edges.length _ _ _ _ (by omega) (by omega) HO30.out).mono ?_
    rintro e w31 ⟨rfl, _, t31⟩
    have HK31 := Lib.hid (HK30.out.turn t31 (by omega))
    have HP31 := Lib.hid (HP30.out.turn t31 (.inr (by omega)))
    have HG31 := Lib.hid (HG30.out.turn t31 (.inl (by omega)))
    have hq31 : ¬ (((1 + ss.length + es.length * 5 + vs.length + zs.length + edges.length : Nat) : Int) < 0) := by omega
    have gc0 := HG31.out.box.c 0 _ rfl
    have gc1 := HG31.out.box.c 1 _ rfl
    have gc2 := HG31.out.box.c 2 _ rfl
    have pc0 := HP31.out.box.c 0 _ rfl
    have pc1 := HP31.out.box.c 1 _ rfl
    have pc2 := HP31.out.box.c 2 _ rfl
    clear t31 HK30 HP30 HG30 HO30
    go_wp2_with fail
    refine (eqStates p1 _ _ _ _ _ _ _ _ ps qs _ (by unfold maxLen; omega) (by unfold maxLen; omega) HG31.out.hin.rows HP31.out.hin.rows).mono ?_
    rintro e w32 ⟨rfl, hb32⟩
    have HK32 := Lib.hid (HK31.out.below hb32)
    have HP32 := Lib.hid (HP31.out.below hb32)
    have HG32 := Lib.hid (HG31.out.below hb32)
    clear gc0 gc1 gc2 pc0 pc1 pc2 hb32 HK31 HP31 HG31
    have gc0 := HG32.out.box.c 0 _ rfl
    have gc1 := HG32.out.box.c 1 _ rfl
    have gc2 := HG32.out.box.c 2 _ rfl
    go_wp2_with fail
    refine (markState lG w15.heap.size 1 p1 _ _ _ _ ps.length qs.length _ _ _ eps eqs (by omega) (by omega) (by omega) HG32.out.hin).mono ?_
    rintro e w33 ⟨rfl, hm33, t33⟩
    have HK33 := Lib.hid (HK32.out.turn t33 (by omega))
    have HP33 := Lib.hid (HP32.out.turn t33 (.inr (by omega)))
    have hb33 := HG32.out.box.turn t33 HG32.out.out
    have HM33 := Lib.hid hm33
    have HBG33 := Lib.hid hb33
    have hq33 : ¬ (((1 + ps.length + qs.length : Nat) : Int) < 0) := by omega
    clear gc0 gc1 gc2 t33 HK32 HP32 HG32 hm33 hb33 hq31
    have gc0 := HBG33.out.c 0 _ rfl
    have gc1 := HBG33.out.c 1 _ rfl
    have gc2 := HBG33.out.c 2 _ rfl
    go_wp2_with fail
    refine (heldState 1 p1 ps.length qs.length _ _ _ _ _ (by omega) (by omega) (by omega) HM33.out.marks).mono ?_
    rintro e w24 ⟨rfl, hb24⟩
    have HK24 := Lib.hid (HK33.out.below hb24)
    have HP24 := Lib.hid (HP33.out.below hb24)
    have HM24 := Lib.hid (HM33.out.below hb24)
    have HBG24 := Lib.hid (HBG33.out.below hb24)
    clear gc0 gc1 gc2 hb24 HK33 HP33 HM33 HBG33
    go_wp2
    refine Code.wp_mono (Q := After37 (prV va ss.length vc n ba es.length bc) (heV a vs.length ca b zs.length cb) (.slice ea edges.length ec) w.heap.size c1 c2 RP w15.heap.size (((1 + ps.length + qs.length : Nat) : Int)) w24 p1 ps qs) ?tail37 ?reg37
    case' reg37 =>
              have HK := Lib.hid (fun W (hb : Below w24.heap.size w24 W) => HK24.out.below hb)
              have hl24 := HK24.out.lt
              go_region_held3 (fun W => (W.cell? ⟨w.heap.size, 0, none⟩ = some (.slice va ss.length vc) ∧ W.cell? ⟨w.heap.size, 1, none⟩ = some (.int .i64 n) ∧ W.cell? ⟨w.heap.size, 2, none⟩ = some (.slice ba es.length bc)) ∧ (W.cell? ⟨w.heap.size + 1, 0, none⟩ = some (.slice a vs.length ca) ∧ W.cell? ⟨w.heap.size + 1, 1, none⟩ = some (.slice b zs.length cb)))
                (first | (refine (HK.out _ ?_).five; (repeat (first | with_reducible exact Below.refl _ _ | with_reducible assumption | with_reducible refine Below.drew ?_ | with_reducible refine Below.setCell ?_ (by go_size) _ | with_reducible refine Below.alloc ?_ (by go_size) _)); done))
                (first
                  | (go_at_call 24; (with_reducible refine (toProgram va vc ss n ba bc es _ (by omega) (by omega) (HARG.out _ (HK.out _ (by repeat (first | with_reducible exact Below.refl _ _ | with_reducible assumption | with_reducible refine Below.drew ?_ | with_reducible refine Below.setCell ?_ (by go_size) _ | with_reducible refine Below.alloc ?_ (by go_size) _))).b).1.1 (HARG.out _ (HK.out _ (by repeat (first | with_reducible exact Below.refl _ _ | with_reducible assumption | with_reducible refine Below.drew ?_ | with_reducible refine Below.setCell ?_ (by go_size) _ | with_reducible refine Below.alloc ?_ (by go_size) _))).b).1.2).mono ?_); rintro e w25 ⟨g1, g2, rfl, hg1, hg2, hx1, hx2, hb4⟩; have hz4 := hb4.size; (try simp [World.size_alloc, World.size_drew] at hz4); (try (refine keep_cell (p := ⟨w24.heap.size, 0, none⟩) (x := .int .i64 0) hb4 ?_ ?_ (fun za_0_1 => ?_); (focus (first | go_size | omega)); (focus (first | with_reducible exact bx0_a _ _ | with_reducible exact bx0_b _ _ | with_reducible exact bx0_c _ _)))); (try (refine keep_frozen (g := w24.heap.size) hb4 ?_ ?_ (fun zf_0_1 => ?_); (focus (first | go_size | omega)); (focus (first | with_reducible exact bxF_a _ _ | with_reducible exact bxF_b _ _ | with_reducible exact bxF_c _ _)))); (try (refine keep_cell (p := ⟨w24.heap.size, 1, none⟩) (x := .slice none 0 0) hb4 ?_ ?_ (fun zb_0_1 => ?_); (focus (first | go_size | omega)); (focus (first | with_reducible exact bx1_a _ _ | with_reducible exact bx1_b _ _ | with_reducible exact bx1_c _ _)))); (try (refine keep_cell (p := ⟨w24.heap.size, 2, none⟩) (x := .slice none 0 0) hb4 ?_ ?_ (fun zc_0_1 => ?_); (focus (first | go_size | omega)); (focus (first | with_reducible exact bx2_a _ _ | with_reducible exact bx2_b _ _ | with_reducible exact bx2_c _ _)))); have H4 : Below w24.heap.size w24 w25 := Below.trans (by repeat (first | with_reducible exact Below.refl _ _ | with_reducible assumption | with_reducible refine Below.drew ?_ | with_reducible refine Below.setCell ?_ (by go_size) _ | with_reducible refine Below.alloc ?_ (by go_size) _)) (hb4.mono (by go_size)))
                  | (go_at_call 25; (with_reducible refine (toHeap a b ca cb vs zs _ (by omega) (by omega) (HARG.out _ (HK.out _ (by repeat (first | with_reducible exact Below.refl _ _ | with_reducible assumption | with_reducible refine Below.drew ?_ | with_reducible refine Below.setCell ?_ (by go_size) _ | with_reducible refine Below.alloc ?_ (by go_size) _))).b).2.1).mono ?_); rintro e w26 ⟨p, q, rfl, hin5, hb5⟩; have hz5 := hb5.size; (try simp [World.size_alloc, World.size_drew] at hz5); (try (refine keep_cell (p := ⟨w24.heap.size, 0, none⟩) (x := .int .i64 0) hb5 ?_ ?_ (fun za_0_2 => ?_); (focus (first | go_size | omega)); (focus (first | with_reducible exact za_0_1 | with_reducible exact bx0_a _ _ | with_reducible exact bx0_b _ _ | with_reducible exact bx0_c _ _)))); (try (refine keep_frozen (g := w24.heap.size) hb5 ?_ ?_ (fun zf_0_2 => ?_); (focus (first | go_size | omega)); (focus (first | with_reducible exact zf_0_1 | with_reducible exact bxF_a _ _ | with_reducible exact bxF_b _ _ | with_reducible exact bxF_c _ _)))); (try (refine keep_cell (p := ⟨w24.heap.size, 1, none⟩) (x := .slice none 0 0) hb5 ?_ ?_ (fun zb_0_2 => ?_); (focus (first | go_size | omega)); (focus (first | with_reducible exact zb_0_1 | with_reducible exact bx1_a _ _ | with_reducible exact bx1_b _ _ | with_reducible exact bx1_c _ _)))); (try (refine keep_cell (p := ⟨w24.heap.size, 2, none⟩) (x := .slice none 0 0) hb5 ?_ ?_ (fun zc_0_2 => ?_); (focus (first | go_size | omega)); (focus (first | with_reducible exact zc_0_1 | with_reducible exact bx2_a _ _ | with_reducible exact bx2_b _ _ | with_reducible exact bx2_c _ _)))); (try (refine keep_cell (p := ⟨w25.heap.size, 0, none⟩) (x := .int .i64 0) hb5 ?_ ?_ (fun za_1_2 => ?_); (focus (first | go_size | omega)); (focus (first | with_reducible exact bx0_a _ _ | with_reducible exact bx0_b _ _ | with_reducible exact bx0_c _ _)))); (try (refine keep_frozen (g := w25.heap.size) hb5 ?_ ?_ (fun zf_1_2 => ?_); (focus (first | go_size | omega)); (focus (first | with_reducible exact bxF_a _ _ | with_reducible exact bxF_b _ _ | with_reducible exact bxF_c _ _)))); (try (refine keep_cell (p := ⟨w25.heap.size, 1, none⟩) (x := .slice none 0 0) hb5 ?_ ?_ (fun zb_1_2 => ?_); (focus (first | go_size | omega)); (focus (first | with_reducible exact bx1_a _ _ | with_reducible exact bx1_b _ _ | with_reducible exact bx1_c _ _)))); (try (refine keep_cell (p := ⟨w25.heap.size, 2, none⟩) (x := .slice none 0 0) hb5 ?_ ?_ (fun zc_1_2 => ?_); (focus (first | go_size | omega)); (focus (first | with_reducible exact bx2_a _ _ | with_reducible exact bx2_b _ _ | with_reducible exact bx2_c _ _)))); have H45 : Below w25.heap.size w25 w26 := Below.trans (by repeat (first | with_reducible exact Below.refl _ _ | with_reducible assumption | with_reducible refine Below.drew ?_ | with_reducible refine Below.setCell ?_ (by go_size) _ | with_reducible refine Below.alloc ?_ (by go_size) _)) (hb5.mono (by go_size)); have H5 := H4.trans (H45.mono H4.size))
                  | (go_at_call 26; (with_reducible refine (toIntsL ea ec edges _ (by omega) (HARG.out _ (HK.out _ (by repeat (first | with_reducible exact Below.refl _ _ | with_reducible assumption | with_reducible refine Below.drew ?_ | with_reducible refine Below.setCell ?_ (by go_size) _ | with_reducible refine Below.alloc ?_ (by go_size) _))).b).2.2.1).mono ?_); rintro e w27 ⟨o, ho6, rfl, hx6, hb6⟩; have hz6 := hb6.size; (try simp [World.size_alloc, World.size_drew] at hz6); (try (refine keep_cell (p := ⟨w24.heap.size, 0, none⟩) (x := .int .i64 0) hb6 ?_ ?_ (fun za_0_3 => ?_); (focus (first | go_size | omega)); (focus (first | with_reducible exact za_0_2 | with_reducible exact bx0_a _ _ | with_reducible exact bx0_b _ _ | with_reducible exact bx0_c _ _)))); (try (refine keep_frozen (g := w24.heap.size) hb6 ?_ ?_ (fun zf_0_3 => ?_); (focus (first | go_size | omega)); (focus (first | with_reducible exact zf_0_2 | with_reducible exact bxF_a _ _ | with_reducible exact bxF_b _ _ | with_reducible exact bxF_c _ _)))); (try (refine keep_cell (p := ⟨w24.heap.size, 1, none⟩) (x := .slice none 0 0) hb6 ?_ ?_ (fun zb_0_3 => ?_); (focus (first | go_size | omega)); (focus (first | with_reducible exact zb_0_2 | with_reducible exact bx1_a _ _ | with_reducible exact bx1_b _ _ | with_reducible exact bx1_c _ _)))); (try (refine keep_cell (p := ⟨w24.heap.size, 2, none⟩) (x := .slice none 0 0) hb6 ?_ ?_ (fun zc_0_3 => ?_); (focus (first | go_size | omega)); (focus (first | with_reducible exact zc_0_2 | with_reducible exact bx2_a _ _ | with_reducible exact bx2_b _ _ | with_reducible exact bx2_c _ _)))); (try (refine keep_cell (p := ⟨w25.heap.size, 0, none⟩) (x := .int .i64 0) hb6 ?_ ?_ (fun za_1_3 => ?_); (focus (first | go_size | omega)); (focus (first | with_reducible exact za_1_2 | with_reducible exact bx0_a _ _ | with_reducible exact bx0_b _ _ | with_reducible exact bx0_c _ _)))); (try (refine keep_frozen (g := w25.heap.size) hb6 ?_ ?_ (fun zf_1_3 => ?_); (focus (first | go_size | omega)); (focus (first | with_reducible exact zf_1_2 | with_reducible exact bxF_a _ _ | with_reducible exact bxF_b _ _ | with_reducible exact bxF_c _ _)))); (try (refine keep_cell (p := ⟨w25.heap.size, 1, none⟩) (x := .slice none 0 0) hb6 ?_ ?_ (fun zb_1_3 => ?_); (focus (first | go_size | omega)); (focus (first | with_reducible exact zb_1_2 | with_reducible exact bx1_a _ _ | with_reducible exact bx1_b _ _ | with_reducible exact bx1_c _ _)))); (try (refine keep_cell (p := ⟨w25.heap.size, 2, none⟩) (x := .slice none 0 0) hb6 ?_ ?_ (fun zc_1_3 => ?_); (focus (first | go_size | omega)); (focus (first | with_reducible exact zc_1_2 | with_reducible exact bx2_a _ _ | with_reducible exact bx2_b _ _ | with_reducible exact bx2_c _ _)))); (try (refine keep_cell (p := ⟨w26.heap.size, 0, none⟩) (x := .int .i64 0) hb6 ?_ ?_ (fun za_2_3 => ?_); (focus (first | go_size | omega)); (focus (first | with_reducible exact bx0_a _ _ | with_reducible exact bx0_b _ _ | with_reducible exact bx0_c _ _)))); (try (refine keep_frozen (g := w26.heap.size) hb6 ?_ ?_ (fun zf_2_3 => ?_); (focus (first | go_size | omega)); (focus (first | with_reducible exact bxF_a _ _ | with_reducible exact bxF_b _ _ | with_reducible exact bxF_c _ _)))); (try (refine keep_cell (p := ⟨w26.heap.size, 1, none⟩) (x := .slice none 0 0) hb6 ?_ ?_ (fun zb_2_3 => ?_); (focus (first | go_size | omega)); (focus (first | with_reducible exact bx1_a _ _ | with_reducible exact bx1_b _ _ | with_reducible exact bx1_c _ _)))); (try (refine keep_cell (p := ⟨w26.heap.size, 2, none⟩) (x := .slice none 0 0) hb6 ?_ ?_ (fun zc_2_3 => ?_); (focus (first | go_size | omega)); (focus (first | with_reducible exact bx2_a _ _ | with_reducible exact bx2_b _ _ | with_reducible exact bx2_c _ _)))); have H56 : Below w26.heap.size w26 w27 := Below.trans (by repeat (first | with_reducible exact Below.refl _ _ | with_reducible assumption | with_reducible refine Below.drew ?_ | with_reducible refine Below.setCell ?_ (by go_size) _ | with_reducible refine Below.alloc ?_ (by go_size) _)) (hb6.mono (by go_size)); have H46 := H45.trans (H56.mono H45.size); have H6 := H4.trans (H46.mono H4.size))
                  | (go_at_call 8; (refine Calls.mono (HIX.out _ _ _ g1 g2 o w25 w26 w27 _ p q _ _ hx1 hx2 ?_ hin5 ?_ hx6 ?_ ?_) ?_); (focus ((repeat (first | with_reducible exact Below.refl _ _ | with_reducible assumption | with_reducible refine Below.drew ?_ | with_reducible refine Below.setCell ?_ (by go_size) _ | with_reducible refine Below.alloc ?_ (by go_size) _)); done)); (focus ((repeat (first | with_reducible exact Below.refl _ _ | with_reducible assumption | with_reducible refine Below.drew ?_ | with_reducible refine Below.setCell ?_ (by go_size) _ | with_reducible refine Below.alloc ?_ (by go_size) _)); done)); (focus ((repeat (first | with_reducible exact Below.refl _ _ | with_reducible assumption | with_reducible refine Below.drew ?_ | with_reducible refine Below.setCell ?_ (by go_size) _ | with_reducible refine Below.alloc ?_ (by go_size) _)); done)); (focus (refine (HK.out _ ?_).b; (repeat (first | with_reducible exact Below.refl _ _ | with_reducible assumption | with_reducible refine Below.drew ?_ | with_reducible refine Below.setCell ?_ (by go_size) _ | with_reducible refine Below.alloc ?_ (by go_size) _)); done)); rintro e w28 ⟨lo9, xa, xca, xb, xcb, hlo9, rfl, hin9, hb7⟩; (try simp [World.size_alloc, World.size_drew] at hlo9); have hz7 := hb7.size; (try simp [World.size_alloc, World.size_drew] at hz7); (try (refine keep_cell (p := ⟨w24.heap.size, 0, none⟩) (x := .int .i64 0) hb7 ?_ ?_ (fun za_0_4 => ?_); (focus (first | go_size | omega)); (focus (first | with_reducible exact za_0_3 | with_reducible exact bx0_a _ _ | with_reducible exact bx0_b _ _ | with_reducible exact bx0_c _ _)))); (try (refine keep_frozen (g := w24.heap.size) hb7 ?_ ?_ (fun zf_0_4 => ?_); (focus (first | go_size | omega)); (focus (first | with_reducible exact zf_0_3 | with_reducible exact bxF_a _ _ | with_reducible exact bxF_b _ _ | with_reducible exact bxF_c _ _)))); (try (refine keep_cell (p := ⟨w24.heap.size, 1, none⟩) (x := .slice none 0 0) hb7 ?_ ?_ (fun zb_0_4 => ?_); (focus (first | go_size | omega)); (focus (first | with_reducible exact zb_0_3 | with_reducible exact bx1_a _ _ | with_reducible exact bx1_b _ _ | with_reducible exact bx1_c _ _)))); (try (refine keep_cell (p := ⟨w24.heap.size, 2, none⟩) (x := .slice none 0 0) hb7 ?_ ?_ (fun zc_0_4 => ?_); (focus (first | go_size | omega)); (focus (first | with_reducible exact zc_0_3 | with_reducible exact bx2_a _ _ | with_reducible exact bx2_b _ _ | with_reducible exact bx2_c _ _)))); (try (refine keep_cell (p := ⟨w25.heap.size, 0, none⟩) (x := .int .i64 0) hb7 ?_ ?_ (fun za_1_4 => ?_); (focus (first | go_size | omega)); (focus (first | with_reducible exact za_1_3 | with_reducible exact bx0_a _ _ | with_reducible exact bx0_b _ _ | with_reducible exact bx0_c _ _)))); (try (refine keep_frozen (g := w25.heap.size) hb7 ?_ ?_ (fun zf_1_4 => ?_); (focus (first | go_size | omega)); (focus (first | with_reducible exact zf_1_3 | with_reducible exact bxF_a _ _ | with_reducible exact bxF_b _ _ | with_reducible exact bxF_c _ _)))); (try (refine keep_cell (p := ⟨w25.heap.size, 1, none⟩) (x := .slice none 0 0) hb7 ?_ ?_ (fun zb_1_4 => ?_); (focus (first | go_size | omega)); (focus (first | with_reducible exact zb_1_3 | with_reducible exact bx1_a _ _ | with_reducible exact bx1_b _ _ | with_reducible exact bx1_c _ _)))); (try (refine keep_cell (p := ⟨w25.heap.size, 2, none⟩) (x := .slice none 0 0) hb7 ?_ ?_ (fun zc_1_4 => ?_); (focus (first | go_size | omega)); (focus (first | with_reducible exact zc_1_3 | with_reducible exact bx2_a _ _ | with_reducible exact bx2_b _ _ | with_reducible exact bx2_c _ _)))); (try (refine keep_cell (p := ⟨w26.heap.size, 0, none⟩) (x := .int .i64 0) hb7 ?_ ?_ (fun za_2_4 => ?_); (focus (first | go_size | omega)); (focus (first | with_reducible exact za_2_3 | with_reducible exact bx0_a _ _ | with_reducible exact bx0_b _ _ | with_reducible exact bx0_c _ _)))); (try (refine keep_frozen (g := w26.heap.size) hb7 ?_ ?_ (fun zf_2_4 => ?_); (focus (first | go_size | omega)); (focus (first | with_reducible exact zf_2_3 | with_reducible exact bxF_a _ _ | with_reducible exact bxF_b _ _ | with_reducible exact bxF_c _ _)))); (try (refine keep_cell (p := ⟨w26.heap.size, 1, none⟩) (x := .slice none 0 0) hb7 ?_ ?_ (fun zb_2_4 => ?_); (focus (first | go_size | omega)); (focus (first | with_reducible exact zb_2_3 | with_reducible exact bx1_a _ _ | with_reducible exact bx1_b _ _ | with_reducible exact bx1_c _ _)))); (try (refine keep_cell (p := ⟨w26.heap.size, 2, none⟩) (x := .slice none 0 0) hb7 ?_ ?_ (fun zc_2_4 => ?_); (focus (first | go_size | omega)); (focus (first | with_reducible exact zc_2_3 | with_reducible exact bx2_a _ _ | with_reducible exact bx2_b _ _ | with_reducible exact bx2_c _ _)))); (try (refine keep_cell (p := ⟨w27.heap.size, 0, none⟩) (x := .int .i64 0) hb7 ?_ ?_ (fun za_3_4 => ?_); (focus (first | go_size | omega)); (focus (first | with_reducible exact bx0_a _ _ | with_reducible exact bx0_b _ _ | with_reducible exact bx0_c _ _)))); (try (refine keep_frozen (g := w27.heap.size) hb7 ?_ ?_ (fun zf_3_4 => ?_); (focus (first | go_size | omega)); (focus (first | with_reducible exact bxF_a _ _ | with_reducible exact bxF_b _ _ | with_reducible exact bxF_c _ _)))); (try (refine keep_cell (p := ⟨w27.heap.size, 1, none⟩) (x := .slice none 0 0) hb7 ?_ ?_ (fun zb_3_4 => ?_); (focus (first | go_size | omega)); (focus (first | with_reducible exact bx1_a _ _ | with_reducible exact bx1_b _ _ | with_reducible exact bx1_c _ _)))); (try (refine keep_cell (p := ⟨w27.heap.size, 2, none⟩) (x := .slice none 0 0) hb7 ?_ ?_ (fun zc_3_4 => ?_); (focus (first | go_size | omega)); (focus (first | with_reducible exact bx2_a _ _ | with_reducible exact bx2_b _ _ | with_reducible exact bx2_c _ _)))); have H9 : Below w24.heap.size w24 w28 := Below.trans (by repeat (first | with_reducible exact Below.refl _ _ | with_reducible assumption | with_reducible refine Below.drew ?_ | with_reducible refine Below.setCell ?_ (by go_size) _ | with_reducible refine Below.alloc ?_ (by go_size) _)) (hb7.mono (by go_size))))
              all_goals
                have hbl9 := hin9.blocks
                try simp only at hbl9
                first
                  | (have box9 : BoxL w28 w24.heap.size [.int .i64 0, .slice none 0 0, .slice none 0 0] := box3_of (by assumption) (by assumption) (by assumption) (by assumption) (by go_size)
                     have hneR : ∀ k, blocksH xa xb ps.length xca qs.length xcb k → k ≠ w24.heap.size := fun k hk e => by have := hbl9 k hk; omega
                     have hinR := (((hin9.setNot (i := 0) (u := (.int .i64 p1)) hneR).setNot (i := 1) (u := (.slice xa ps.length xca)) hneR).setNot (i := 2) (u := (.slice xb qs.length xcb)) hneR)
                     have boxR := ((box9.set 0 (.int .i64 p1)).set 1 (.slice xa ps.length xca)).set 2 (.slice xb qs.length xcb)
                     have hBR : Below w24.heap.size w24 (((w28.setCell ⟨w24.heap.size, 0, none⟩ (.int .i64 p1)).setCell ⟨w24.heap.size, 1, none⟩ (.slice xa ps.length xca)).setCell ⟨w24.heap.size, 2, none⟩ (.slice xb qs.length xcb)) := ((H9.setCell (by show w24.heap.size ≤ w24.heap.size; omega) _).setCell (by show w24.heap.size ≤ w24.heap.size; omega) _).setCell (by show w24.heap.size ≤ w24.heap.size; omega) _
                     have hsR : (((w28.setCell ⟨w24.heap.size, 0, none⟩ (.int .i64 p1)).setCell ⟨w24.heap.size, 1, none⟩ (.slice xa ps.length xca)).setCell ⟨w24.heap.size, 2, none⟩ (.slice xb qs.length xcb)).heap.size = w28.heap.size := by simp
                     exact ⟨rfl, _, lo9, w28.heap.size, xa, xca, xb, xcb, ⟨_, _, _, _, _, _, _, _, _, _, _, _, _, _, _, _, _, _, _, _, _, _, _, _, _, _, _, _, _, _, _, _, _, _, _, _, _, _, _, _, _, _, _, _, _, _, _, _, _, _, _, _, _, _, _, _, _, _, _, _, _, _, _, _, _, _, _, _, _, _, _, _, _, _, _, _, _, _, _, _, _, _, _, _, _, _, _, _, _, _, _, _, _, _, _, _, _, _, _, _, _, _, _, _, _, _, _, _, _, _, _, _, _, _, _, _, _, _, _, _, _, _, _, _⟩, rfl, ⟨boxR, hinR, .inl (by omega), by omega, by omega, by omega, by omega, by omega⟩, hBR⟩)
                  | (have box9 : BoxL w28 w25.heap.size [.int .i64 0, .slice none 0 0, .slice none 0 0] := box3_of (by assumption) (by assumption) (by assumption) (by assumption) (by go_size)
                     have hneR : ∀ k, blocksH xa xb ps.length xca qs.length xcb k → k ≠ w25.heap.size := fun k hk e => by have := hbl9 k hk; omega
                     have hinR := (((hin9.setNot (i := 0) (u := (.int .i64 p1)) hneR).setNot (i := 1) (u := (.slice xa ps.length xca)) hneR).setNot (i := 2) (u := (.slice xb qs.length xcb)) hneR)
                     have boxR := ((box9.set 0 (.int .i64 p1)).set 1 (.slice xa ps.length xca)).set 2 (.slice xb qs.length xcb)
                     have hBR : Below w24.heap.size w24 (((w28.setCell ⟨w25.heap.size, 0, none⟩ (.int .i64 p1)).setCell ⟨w25.heap.size, 1, none⟩ (.slice xa ps.length xca)).setCell ⟨w25.heap.size, 2, none⟩ (.slice xb qs.length xcb)) := ((H9.setCell (by show w24.heap.size ≤ w25.heap.size; omega) _).setCell (by show w24.heap.size ≤ w25.heap.size; omega) _).setCell (by show w24.heap.size ≤ w25.heap.size; omega) _
                     have hsR : (((w28.setCell ⟨w25.heap.size, 0, none⟩ (.int .i64 p1)).setCell ⟨w25.heap.size, 1, none⟩ (.slice xa ps.length xca)).setCell ⟨w25.heap.size, 2, none⟩ (.slice xb qs.length xcb)).heap.size = w28.heap.size := by simp
                     exact ⟨rfl, _, lo9, w28.heap.size, xa, xca, xb, xcb, ⟨_, _, _, _, _, _, _, _, _, _, _, _, _, _, _, _, _, _, _, _, _, _, _, _, _, _, _, _, _, _, _, _, _, _, _, _, _, _, _, _, _, _, _, _, _, _, _, _, _, _, _, _, _, _, _, _, _, _, _, _, _, _, _, _, _, _, _, _, _, _, _, _, _, _, _, _, _, _, _, _, _, _, _, _, _, _, _, _, _, _, _, _, _, _, _, _, _, _, _, _, _, _, _, _, _, _, _, _, _, _, _, _, _, _, _, _, _, _, _, _, _, _, _, _⟩, rfl, ⟨boxR, hinR, .inl (by omega), by omega, by omega, by omega, by omega, by omega⟩, hBR⟩)
                  | (have box9 : BoxL w28 w26.heap.size [.int .i64 0, .slice none 0 0, .slice none 0 0] := box3_of (by assumption) (by assumption) (by assumption) (by assumption) (by go_size)
                     have hneR : ∀ k, blocksH xa xb ps.length xca qs.length xcb k → k ≠ w26.heap.size := fun k hk e => by have := hbl9 k hk; omega
                     have hinR := (((hin9.setNot (i := 0) (u := (.int .i64 p1)) hneR).setNot (i := 1) (u := (.slice xa ps.length xca)) hneR).setNot (i := 2) (u := (.slice xb qs.length xcb)) hneR)
                     have boxR := ((box9.set 0 (.int .i64 p1)).set 1 (.slice xa ps.length xca)).set 2 (.slice xb qs.length xcb)
                     have hBR : Below w24.heap.size w24 (((w28.setCell ⟨w26.heap.size, 0, none⟩ (.int .i64 p1)).setCell ⟨w26.heap.size, 1, none⟩ (.slice xa ps.length xca)).setCell ⟨w26.heap.size, 2, none⟩ (.slice xb qs.length xcb)) := ((H9.setCell (by show w24.heap.size ≤ w26.heap.size; omega) _).setCell (by show w24.heap.size ≤ w26.heap.size; omega) _).setCell (by show w24.heap.size ≤ w26.heap.size; omega) _
                     have hsR : (((w28.setCell ⟨w26.heap.size, 0, none⟩ (.int .i64 p1)).setCell ⟨w26.heap.size, 1, none⟩ (.slice xa ps.length xca)).setCell ⟨w26.heap.size, 2, none⟩ (.slice xb qs.length xcb)).heap.size = w28.heap.size := by simp
                     exact ⟨rfl, _, lo9, w28.heap.size, xa, xca, xb, xcb, ⟨_, _, _, _, _, _, _, _, _, _, _, _, _, _, _, _, _, _, _, _, _, _, _, _, _, _, _, _, _, _, _, _, _, _, _, _, _, _, _, _, _, _, _, _, _, _, _, _, _, _, _, _, _, _, _, _, _, _, _, _, _, _, _, _, _, _, _, _, _, _, _, _, _, _, _, _, _, _, _, _, _, _, _, _, _, _, _, _, _, _, _, _, _, _, _, _, _, _, _, _, _, _, _, _, _, _, _, _, _, _, _, _, _, _, _, _, _, _, _, _, _, _, _, _⟩, rfl, ⟨boxR, hinR, .inl (by omega), by omega, by omega, by omega, by omega, by omega⟩, hBR⟩)
                  | (have box9 : BoxL w28 w27.heap.size [.int .i64 0, .slice none 0 0, .slice none 0 0] := box3_of (by assumption) (by assumption) (by assumption) (by assumption) (by go_size)
                     have hneR : ∀ k, blocksH xa xb ps.length xca qs.length xcb k → k ≠ w27.heap.size := fun k hk e => by have := hbl9 k hk; omega
                     have hinR := (((hin9.setNot (i := 0) (u := (.int .i64 p1)) hneR).setNot (i := 1) (u := (.slice xa ps.length xca)) hneR).setNot (i := 2) (u := (.slice xb qs.length xcb)) hneR)
                     have boxR := ((box9.set 0 (.int .i64 p1)).set 1 (.slice xa ps.length xca)).set 2 (.slice xb qs.length xcb)
                     have hBR : Below w24.heap.size w24 (((w28.setCell ⟨w27.heap.size, 0, none⟩ (.int .i64 p1)).setCell ⟨w27.heap.size, 1, none⟩ (.slice xa ps.length xca)).setCell ⟨w27.heap.size, 2, none⟩ (.slice xb qs.length xcb)) := ((H9.setCell (by show w24.heap.size ≤ w27.heap.size; omega) _).setCell (by show w24.heap.size ≤ w27.heap.size; omega) _).setCell (by show w24.heap.size ≤ w27.heap.size; omega) _
                     have hsR : (((w28.setCell ⟨w27.heap.size, 0, none⟩ (.int .i64 p1)).setCell ⟨w27.heap.size, 1, none⟩ (.slice xa ps.length xca)).setCell ⟨w27.heap.size, 2, none⟩ (.slice xb qs.length xcb)).heap.size = w28.heap.size := by simp
                     exact ⟨rfl, _, lo9, w28.heap.size, xa, xca, xb, xcb, ⟨_, _, _, _, _, _, _, _, _, _, _, _, _, _, _, _, _, _, _, _, _, _, _, _, _, _, _, _, _, _, _, _, _, _, _, _, _, _, _, _, _, _, _, _, _, _, _, _, _, _, _, _, _, _, _, _, _, _, _, _, _, _, _, _, _, _, _, _, _, _, _, _, _, _, _, _, _, _, _, _, _, _, _, _, _, _, _, _, _, _, _, _, _, _, _, _, _, _, _, _, _, _, _, _, _, _, _, _, _, _, _, _, _, _, _, _, _, _, _, _, _, _, _, _⟩, rfl, ⟨boxR, hinR, .inl (by omega), by omega, by omega, by omega, by omega, by omega⟩, hBR⟩)
                  | (have hal := (Below.refl w28.heap.size w28).alloc (Nat.le_refl _) (.cells #[.int .i64 p1, .slice xa ps.length xca, .slice xb qs.length xcb] 34)
                     have boxR : BoxL (w28.alloc (.cells #[.int .i64 p1, .slice xa ps.length xca, .slice xb qs.length xcb] 34)) w28.heap.size [.int .i64 p1, .slice xa ps.length xca, .slice xb qs.length xcb] := BoxL.new w28 _ _
                     have hinR := hin9.below hal
                     have hBR := H9.trans (hal.mono H9.size)
                     have hsR : (w28.alloc (.cells #[.int .i64 p1, .slice xa ps.length xca, .slice xb qs.length xcb] 34)).heap.size = w28.heap.size + 1 := by simp
                     exact ⟨rfl, _, lo9, w28.heap.size, xa, xca, xb, xcb, ⟨_, _, _, _, _, _, _, _, _, _, _, _, _, _, _, _, _, _, _, _, _, _, _, _, _, _, _, _, _, _, _, _, _, _, _, _, _, _, _, _, _, _, _, _, _, _, _, _, _, _, _, _, _, _, _, _, _, _, _, _, _, _, _, _, _, _, _, _, _, _, _, _, _, _, _, _, _, _, _, _, _, _, _, _, _, _, _, _, _, _, _, _, _, _, _, _, _, _, _, _, _, _, _, _, _, _, _, _, _, _, _, _, _, _, _, _, _, _, _, _, _, _, _, _⟩, rfl, ⟨boxR, hinR, .inr (Nat.le_refl _), by omega, by omega, by omega, by omega, by omega⟩, hBR⟩)

    case' tail37 =>
      rintro e act W40 ⟨rfl, RH, lH, hH, ha_, hca, hb_, hcb, U, rfl, hHs, hb40⟩
      unfold frame37
      have HK40 := Lib.hid (HK24.out.below hb40)
      have HP40 := Lib.hid (HP24.out.below hb40)
      have HM40 := Lib.hid (HM24.out.below hb40)
      have HBG40 := Lib.hid (HBG24.out.below hb40)
      have HH40 := Lib.hid hHs
      have gc0 := hHs.box.c 0 _ rfl
      have gc1 := hHs.box.c 1 _ rfl
      have gc2 := hHs.box.c 2 _ rfl
      have pc0 := HP40.out.box.c 0 _ rfl
      have pc1 := HP40.out.box.c 1 _ rfl
      have pc2 := HP40.out.box.c 2 _ rfl
      clear hHs hb40 HK24 HP24 HM24 HBG24
      go_wp2_with fail
      refine (eqStates p1 _ _ _ _ _ _ _ _ ps qs _ (by unfold maxLen; omega) (by unfold maxLen; omega) HH40.out.hin.rows HP40.out.hin.rows).mono ?_
      rintro e w41 ⟨rfl, hb41⟩
      have HB41 := Lib.hid (HK40.out.below hb41).b
      have HM41 := Lib.hid (HM40.out.below hb41)
      have hbg41 := HBG40.out.below hb41
      clear gc0 gc1 gc2 pc0 pc1 pc2 hb41 HK40 HP40 HM40 HBG40 HH40
      have gc0 := hbg41.c 0 _ rfl
      have gc1 := hbg41.c 1 _ rfl
      have gc2 := hbg41.c 2 _ rfl
      clear hbg41
      go_wp2_with fail
      refine (heldState 1 p1 ps.length qs.length _ _ _ _ _ (by omega) (by omega) (by omega) HM41.out.marks).mono ?_
      rintro e w42 ⟨rfl, hb42⟩
      have HB42 := Lib.hid (HB41.out.trans (hb42.mono HB41.out.size))
      clear gc0 gc1 gc2 hb42 HB41
      go_wp2
      go_ret
      exact ⟨rfl, HB42.out⟩

end Go.Proofs.YtpmmjaceehlpiaaGreatDoor.exactFollow
