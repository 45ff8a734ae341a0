/-
  Proved: for every list of bytes the law FnFormulas returns true and leaves its argument as it was. No condition beyond the given row's own.
-/
import Derived.Test.YthhhmlohfhioeaaDrawFms2
import Derived.Test.YthhhmlohfhioeaaIsForm
import Derived.Test.YthhhmlohfhioeaaEqualFm
import Derived.Test.YthhhmlohfhioeaaSpecFreeLogic
import Derived.Test.YthhhmlohfhioeaaSameInts
import Derived.Test.YthhhmlohfhioeaaRows
import Derived.ChangeMaps5
import Derived.LaidLaws
import Derived.Deep.RegionHeld3
namespace Go.Proofs.Ythhhmlohfhioeaa.formulas
open Go Go.RowKit Go.ChangeShapes Go.WideShapes Go.ChangeAt

/-- The law said true, and nothing old has turned. -/
def TrueEnd (w : World) (e : Ending) (w' : World) : Prop := e = .returned (.bool true) ∧ Below w.heap.size w w'
/-- A formula in a box, that the program may walk over. -/
structure TB (W : World) (X : Nat) (t : Ft) : Prop where
  box : BoxL W X t.cells
  s : Solid W t
theorem TB.below {W W' : World} {X : Nat} {t : Ft} (h : TB W X t) (hb : Below W.heap.size W W') : TB W' X t := ⟨h.box.below hb, h.s.below hb⟩
theorem TB.new {W : World} {t : Ft} (h : Solid W t) : TB (W.alloc (.cells #[.int .i64 t.kd, .int .i64 t.k, .int .i64 t.u, .int .i64 t.v, .slice t.a t.args.length t.cap] 26)) W.heap.size t := ⟨BoxL.new W t.cells _, h.below ((Below.refl _ _).alloc (Nat.le_refl _) _)⟩
theorem TB.cells {W : World} {X : Nat} {t : Ft} (h : TB W X t) : (W.cell? ⟨X, 0, none⟩ = some (.int .i64 t.kd) ∧ W.cell? ⟨X, 1, none⟩ = some (.int .i64 t.k) ∧ W.cell? ⟨X, 2, none⟩ = some (.int .i64 t.u) ∧ W.cell? ⟨X, 3, none⟩ = some (.int .i64 t.v) ∧ W.cell? ⟨X, 4, none⟩ = some (.slice t.a t.args.length t.cap)) := ⟨h.box.c 0 _ rfl, h.box.c 1 _ rfl, h.box.c 2 _ rfl, h.box.c 3 _ rfl, h.box.c 4 _ rfl⟩
theorem flat_nodup {x : Ft} : ∀ (ts : List Ft), (ts.flatMap Ft.places).Nodup → x ∈ ts → x.places.Nodup
  | [], _, h => by cases h
  | t :: ts, hn, h => by
    rw [List.flatMap_cons] at hn
    have h2 := List.nodup_append.1 hn
    rcases List.mem_cons.1 h with rfl | h
    · exact h2.1
    · exact flat_nodup ts h2.2.1 h
theorem row_to {w w' : World} {a : Option Addr} {xs : List Value} (h : Row w w.heap.size a xs) (hb : Below w.heap.size w w') : Row w' w'.heap.size a xs := (h.below hb).grow hb.size
theorem solid_part {W : World} {t x : Ft} (h : Solid W t) (hx : x ∈ t.args) : Solid W x := by
  have hp := t.places_eq
  have hz := t.size_er
  have hm := Fm.size_mem (t.args.map Ft.er) _ (List.mem_map.2 ⟨x, hx, rfl⟩)
  have hsub : ∀ p ∈ x.places, p ∈ t.places := fun p hp' => by rw [hp]; exact List.mem_append_right _ (List.mem_flatMap.2 ⟨x, hx, hp'⟩)
  refine ⟨h.in_.part hx, ?_, fun p hp' => h.plain p (hsub p hp'), by have := h.small; omega⟩
  have hn := h.nd
  rw [hp] at hn
  exact flat_nodup t.args (List.nodup_append.1 hn).2.1 hx
theorem freeL_length (t : Fm) : (freeL t).length ≤ 4 := Nat.le_trans (List.length_filter_le _ _) (by decide)
theorem alloc_below (w : World) (o : Obj) : Below w.heap.size w (w.alloc o) := (Below.refl _ _).alloc (Nat.le_refl _) _

set_option maxRecDepth 100000 in
set_option maxHeartbeats 3200000 in
theorem walk (a : Option Addr) (n cap : Nat) (w : World) (hn : n ≤ maxLen) (hcode : Code8 w w.heap.size n a) : Calls Try.prog 3 #[.slice a n cap] w (TrueEnd w) := by
  by_cases hbig : 1048576 < n
  · go_enter Try.func3, Try.ntmps3
    go_wp2_with fail
    refine (bigYes a n cap _ hn hbig).mono ?_
    rintro e w1 ⟨rfl, rfl⟩
    go_wp2
    go_ret
    exact ⟨rfl, Below.refl _ _⟩
  have HCD := Lib.hid (fun (W : World) (h : Below w.heap.size w W) => (show Code8 W W.heap.size n a from (hcode.keeps fun p hp => h.cell hp).grow h.size))
  have hb0 := Below.refl w.heap.size w
  clear hcode
  go_enter Try.func3, Try.ntmps3
  go_wp2_with fail
  refine (bigNo a n cap _ (by omega)).mono ?_
  rintro e w1 ⟨rfl, rfl⟩
  go_wp2_with fail
  refine (drawIsFm a n cap _ (by omega) (HCD.out _ hb0)).mono ?_
  rintro e w2 ⟨nv, f, rfl, hnv, hfs, hsf, hb2⟩
  have T3 := TB.new hsf
  have hB3 := hb2.trans ((alloc_below w2 (.cells #[.int .i64 f.kd, .int .i64 f.k, .int .i64 f.u, .int .i64 f.v, .slice f.a f.args.length f.cap] 26)).mono hb2.size)
  obtain ⟨W3, hW3⟩ : ∃ W, w2.alloc (.cells #[.int .i64 f.kd, .int .i64 f.k, .int .i64 f.u, .int .i64 f.v, .slice f.a f.args.length f.cap] 26) = W := ⟨_, rfl⟩
  rw [hW3] at T3 hB3
  have HW3 := Lib.hid hW3
  have hs3 := T3.box.lt
  obtain ⟨c0, c1, c2, c3, c4⟩ := T3.cells
  have HT3 := Lib.hid T3
  have HB3 := Lib.hid hB3
  have HFS := Lib.hid hfs
  have hln := Fm.length_sizes (f.args.map Ft.er)
  have hse := f.size_er
  rw [List.length_map] at hln
  have hal : f.args.length ≤ 64 := by omega
  clear hW3 hsf hb2 T3 hB3 hfs hln hse hb0
  go_wp2_with fail
  rw [HW3.out]
  clear HW3
  generalize w2.heap.size = X3 at *
  go_loopw [5, 6, 7] (fun s d i wr => ∃ k : Nat, k ≤ f.args.length ∧ i = .int .i64 k ∧ s = .int .i64 ((1 + Fm.sizes ((f.args.take k).map Ft.er) : Nat) : Int) ∧ d = .int .i64 ((Fm.depths ((f.args.take k).map Ft.er) : Nat) : Int) ∧ Below W3.heap.size W3 wr) (fun _ _ i _ => f.args.length - (intOf i).toNat)
  case atStart => exact ⟨0, Nat.zero_le _, rfl, by simp [Fm.sizes], by simp [Fm.depths], Below.refl _ _⟩
  case round =>
    clear c0 c1 c2 c3 c4
    obtain ⟨k, hk, rfl, rfl, rfl, hb⟩ := hrel
    have T := HT3.out.below hb
    obtain ⟨c0, c1, c2, c3, c4⟩ := T.cells
    by_cases hlt : k < f.args.length
    · obtain ⟨rb, ro, hra, hrb, hE⟩ := T.s.in_.row.node k hlt
      have hsx := Ft.sizes_take f.args k hlt
      have hdx := Ft.depths_take f.args k hlt
      have hsl := Ft.sizes_le f.args (k + 1)
      have hS := solid_part T.s (List.getElem_mem hlt)
      have hse := f.size_er
      generalize f.args[k] = x at *
      obtain ⟨S, hSe⟩ : ∃ S, Fm.sizes ((f.args.take k).map Ft.er) = S := ⟨_, rfl⟩
      obtain ⟨D, hDe⟩ : ∃ D, Fm.depths ((f.args.take k).map Ft.er) = D := ⟨_, rfl⟩
      rw [hSe] at hsx
      rw [hDe] at hdx
      rw [hSe, hDe]
      have HSX := Lib.hid hsx
      have HDX := Lib.hid hdx
      have hsx64 : x.er.size ≤ 64 ∧ S ≤ 64 := by have := HFS.out; omega
      have hdx64 : x.er.depth ≤ 64 := Nat.le_trans (Fm.depth_le_size _) hsx64.1
      have HK := Lib.hid (fun (W : World) (h : Below wr.heap.size wr W) => show (((W.cell? ⟨X3, 0, none⟩ = some (.int .i64 f.kd) ∧ W.cell? ⟨X3, 1, none⟩ = some (.int .i64 f.k) ∧ W.cell? ⟨X3, 2, none⟩ = some (.int .i64 f.u) ∧ W.cell? ⟨X3, 3, none⟩ = some (.int .i64 f.v) ∧ W.cell? ⟨X3, 4, none⟩ = some (.slice f.a f.args.length f.cap))) ∧ NodeAt W rb (ro + k * 5) x) ∧ Solid W x ∧ Below W3.heap.size W3 W from ⟨⟨(T.below h).cells, hE.below h hrb⟩, hS.below h, hb.trans (h.mono hb.size)⟩)
      obtain ⟨d0, d1, d2, d3, d4⟩ := hE
      have HS := Lib.hid hS
      rw [hra] at c4
      have HRA := Lib.hid hra
      clear hsx hdx hsl hse T hS hSe hDe hra
      go_wp2_with fail
      refine (implSizeOf x _ HS.out).mono ?_
      rintro e v1 ⟨rfl, hv1⟩
      clear c0 c1 c2 c3 c4 d0 d1 d2 d3 d4
      obtain ⟨⟨⟨c0, c1, c2, c3, c4⟩, d0, d1, d2, d3, d4⟩, hS1, hb1⟩ := HK.out _ hv1
      rw [HRA.out] at c4
      have hsum : ((1 + S : Nat) : Int) + (x.er.size : Int) = ((1 + (S + x.er.size) : Nat) : Int) := by omega
      have HSUM := Lib.hid hsum
      have HS1 := Lib.hid hS1
      clear hsum hS1
      go_wp2_with fail
      refine (implDepthOf x _ HS1.out).mono ?_
      rintro e v2 ⟨rfl, hv2⟩
      have hv12 := hv1.trans (hv2.mono hv1.size)
      clear c0 c1 c2 c3 c4 d0 d1 d2 d3 d4
      obtain ⟨⟨⟨c0, c1, c2, c3, c4⟩, d0, d1, d2, d3, d4⟩, hS2, hb2⟩ := HK.out _ hv12
      rw [HRA.out] at c4
      have HS2 := Lib.hid hS2
      clear hS2 hb1
      by_cases hgt : D < x.er.depth
      · have hgd : decide ((x.er.depth : Int) > (D : Int)) = true := by simpa using hgt
        go_wp2_with fail
        refine (implDepthOf x _ HS2.out).mono ?_
        rintro e v3 ⟨rfl, hv3⟩
        have hb3 := hb2.trans (hv3.mono hb2.size)
        go_wp2_with fail
        go_roundw
        case rel => exact ⟨k + 1, by omega, by go_num, by rw [HSX.out]; congr 1, by rw [HDX.out]; congr 1; omega, hb3⟩
        case measure => simp [intOf]; omega
      · have hgd : decide ((x.er.depth : Int) > (D : Int)) = false := by simpa using hgt
        go_wp2_with fail
        go_roundw
        case rel => exact ⟨k + 1, by omega, by go_num, by rw [HSX.out]; congr 1, by rw [HDX.out]; congr 1; omega, hb2⟩
        case measure => simp [intOf]; omega
    · obtain rfl : k = f.args.length := by omega
      rw [List.take_length]
      obtain ⟨D, hDe⟩ : ∃ D, Fm.depths (f.args.map Ft.er) = D := ⟨_, rfl⟩
      have hse := f.size_er
      have hde := f.depth_er
      rw [hDe] at hde
      have hs1 : 1 + Fm.sizes (f.args.map Ft.er) = f.er.size := by omega
      rw [hs1, hDe]
      have HDE := Lib.hid hde
      have hD64 : D ≤ 64 := by have := Fm.depth_le_size f.er; have := HFS.out; omega
      have hB := HB3.out.trans (hb.mono HB3.out.size)
      have HT := Lib.hid T
      clear hse hde hs1 hDe T hlt HT3 hb
      go_wp2_with fail
      clear c0 c1 c2 c3 c4
      refine (drawEqualFm a n cap _ (by omega) (HCD.out _ hB)).mono ?_
      rintro e w5 ⟨p, q, rfl, ⟨hps, hqs⟩, ⟨hsp, hsq⟩, hb5⟩
      have HPS := Lib.hid (And.intro hps hqs)
      have hb6 := (alloc_below w5 (.cells #[.int .i64 p.kd, .int .i64 p.k, .int .i64 p.u, .int .i64 p.v, .slice p.a p.args.length p.cap] 26))
      have hb7 := (alloc_below (w5.alloc (.cells #[.int .i64 p.kd, .int .i64 p.k, .int .i64 p.u, .int .i64 p.v, .slice p.a p.args.length p.cap] 26)) (.cells #[.int .i64 q.kd, .int .i64 q.k, .int .i64 q.u, .int .i64 q.v, .slice q.a q.args.length q.cap] 26))
      have T6 := (TB.new hsp).below hb7
      have T7 := TB.new (hsq.below hb6)
      have hs56 : (w5.alloc (.cells #[.int .i64 p.kd, .int .i64 p.k, .int .i64 p.u, .int .i64 p.v, .slice p.a p.args.length p.cap] 26)).heap.size = w5.heap.size + 1 := by simp
      rw [hs56] at T7
      have hb57 : Below wr.heap.size wr ((w5.alloc (.cells #[.int .i64 p.kd, .int .i64 p.k, .int .i64 p.u, .int .i64 p.v, .slice p.a p.args.length p.cap] 26)).alloc (.cells #[.int .i64 q.kd, .int .i64 q.k, .int .i64 q.u, .int .i64 q.v, .slice q.a q.args.length q.cap] 26)) := hb5.trans ((hb6.trans (hb7.mono hb6.size)).mono hb5.size)
      obtain ⟨W7, hW7⟩ : ∃ W, (w5.alloc (.cells #[.int .i64 p.kd, .int .i64 p.k, .int .i64 p.u, .int .i64 p.v, .slice p.a p.args.length p.cap] 26)).alloc (.cells #[.int .i64 q.kd, .int .i64 q.k, .int .i64 q.u, .int .i64 q.v, .slice q.a q.args.length q.cap] 26) = W := ⟨_, rfl⟩
      rw [hW7] at T6 T7 hb57
      have HW7 := Lib.hid hW7
      have hB7 := hB.trans (hb57.mono hB.size)
      have HT3' := Lib.hid (HT.out.below hb57)
      have HT6 := Lib.hid T6
      have HT7 := Lib.hid T7
      clear hW7 T6 T7 hs56 hb57 hb6 hb7 hb5 hsp hsq HT hB hps hqs
      go_wp2_with fail
      rw [HW7.out]
      clear HW7
      generalize w5.heap.size = X6 at *
      refine (drawFreeFm a n cap _ (by omega) (HCD.out _ hB7)).mono ?_
      rintro e w8 ⟨g, rfl, hgs, hsg, hb8⟩
      have HGS := Lib.hid hgs
      have hb9 := alloc_below w8 (.cells #[.int .i64 g.kd, .int .i64 g.k, .int .i64 g.u, .int .i64 g.v, .slice g.a g.args.length g.cap] 26)
      have T9 := TB.new hsg
      have hb79 := hb8.trans (hb9.mono hb8.size)
      obtain ⟨W9, hW9⟩ : ∃ W, w8.alloc (.cells #[.int .i64 g.kd, .int .i64 g.k, .int .i64 g.u, .int .i64 g.v, .slice g.a g.args.length g.cap] 26) = W := ⟨_, rfl⟩
      rw [hW9] at T9 hb79
      have HW9 := Lib.hid hW9
      have hB9 := hB7.trans (hb79.mono hB7.size)
      have h3 := HT3'.out.below hb79
      have h6 := HT6.out.below hb79
      have h7 := HT7.out.below hb79
      clear hW9 hb9 hb8 hsg hgs HT3' HT6 HT7 hB7 hb79
      go_wp2_with fail
      rw [HW9.out]
      clear HW9
      generalize w8.heap.size = X8 at *
      refine (drawKind a n cap _ (by omega) (HCD.out _ hB9)).mono ?_
      rintro e w10 ⟨kn, rfl, hkn, hb10⟩
      have hB10 := hB9.trans (hb10.mono hB9.size)
      have KEY := Lib.hid (fun (W : World) (h : Below w10.heap.size w10 W) => show Below w.heap.size w W ∧ TB W X3 f ∧ TB W X6 p ∧ TB W (X6 + 1) q ∧ TB W X8 g from ⟨hB10.trans (h.mono hB10.size), (h3.below hb10).below h, (h6.below hb10).below h, (h7.below hb10).below h, (T9.below hb10).below h⟩)
      have ALL := Lib.hid (fun (W : World) (h : Below w10.heap.size w10 W) => show (W.cell? ⟨X3, 0, none⟩ = some (.int .i64 f.kd) ∧ W.cell? ⟨X3, 1, none⟩ = some (.int .i64 f.k) ∧ W.cell? ⟨X3, 2, none⟩ = some (.int .i64 f.u) ∧ W.cell? ⟨X3, 3, none⟩ = some (.int .i64 f.v) ∧ W.cell? ⟨X3, 4, none⟩ = some (.slice f.a f.args.length f.cap)) ∧ (W.cell? ⟨X6, 0, none⟩ = some (.int .i64 p.kd) ∧ W.cell? ⟨X6, 1, none⟩ = some (.int .i64 p.k) ∧ W.cell? ⟨X6, 2, none⟩ = some (.int .i64 p.u) ∧ W.cell? ⟨X6, 3, none⟩ = some (.int .i64 p.v) ∧ W.cell? ⟨X6, 4, none⟩ = some (.slice p.a p.args.length p.cap)) ∧ (W.cell? ⟨(X6 + 1), 0, none⟩ = some (.int .i64 q.kd) ∧ W.cell? ⟨(X6 + 1), 1, none⟩ = some (.int .i64 q.k) ∧ W.cell? ⟨(X6 + 1), 2, none⟩ = some (.int .i64 q.u) ∧ W.cell? ⟨(X6 + 1), 3, none⟩ = some (.int .i64 q.v) ∧ W.cell? ⟨(X6 + 1), 4, none⟩ = some (.slice q.a q.args.length q.cap)) ∧ (W.cell? ⟨X8, 0, none⟩ = some (.int .i64 g.kd) ∧ W.cell? ⟨X8, 1, none⟩ = some (.int .i64 g.k) ∧ W.cell? ⟨X8, 2, none⟩ = some (.int .i64 g.u) ∧ W.cell? ⟨X8, 3, none⟩ = some (.int .i64 g.v) ∧ W.cell? ⟨X8, 4, none⟩ = some (.slice g.a g.args.length g.cap)) from ⟨(KEY.out W h).2.1.cells, (KEY.out W h).2.2.1.cells, (KEY.out W h).2.2.2.1.cells, (KEY.out W h).2.2.2.2.cells⟩)
      have hD : Below w10.heap.size w10 w10.drew := Below.drew (Below.refl _ _)
      clear h3 h6 h7 T9 hB9 hB10 hb10
      obtain ⟨fb, hfb⟩ : ∃ b, isFmB nv f.er = b := ⟨_, rfl⟩
      have HFB := Lib.hid hfb
      obtain ⟨c, hc⟩ : ∃ c : Bool, (c = true ↔ p.er = q.er) := by
        by_cases h : p.er = q.er
        · exact ⟨true, by simp [h]⟩
        · exact ⟨false, by simp [h]⟩
      have HC := Lib.hid hc
      have hprod : p.er.size * q.er.size ≤ 1099511627776 := Nat.le_trans (Nat.mul_le_mul HPS.out.1 HPS.out.2) (by decide)
      have HPR := Lib.hid hprod
      have hg4 := freeL_length g.er
      obtain ⟨fl, hfl⟩ : ∃ l, freeL g.er = l := ⟨_, rfl⟩
      rw [hfl] at hg4
      have HFL := Lib.hid hfl
      obtain ⟨ar, har⟩ : ∃ r, arityF kn = r := ⟨_, rfl⟩
      have HAR := Lib.hid har
      have hdep : ((f.er.depth : Nat) : Int) = (D : Int) + 1 := by have := HDE.out; omega
      have HDEP := Lib.hid hdep
      have hwD : IntKind.i64.wrap ((D : Int) + 1) = (D : Int) + 1 := by rw [IntKind.wrap_i64]; omega
      have hfl4 : fl.length ≤ maxLen := by unfold maxLen; omega
      clear hfb hc hprod hfl har hdep
      go_wp2_with fail
      go_region_held3 (fun W => (W.cell? ⟨X3, 0, none⟩ = some (.int .i64 f.kd) ∧ W.cell? ⟨X3, 1, none⟩ = some (.int .i64 f.k) ∧ W.cell? ⟨X3, 2, none⟩ = some (.int .i64 f.u) ∧ W.cell? ⟨X3, 3, none⟩ = some (.int .i64 f.v) ∧ W.cell? ⟨X3, 4, none⟩ = some (.slice f.a f.args.length f.cap)) ∧ (W.cell? ⟨X6, 0, none⟩ = some (.int .i64 p.kd) ∧ W.cell? ⟨X6, 1, none⟩ = some (.int .i64 p.k) ∧ W.cell? ⟨X6, 2, none⟩ = some (.int .i64 p.u) ∧ W.cell? ⟨X6, 3, none⟩ = some (.int .i64 p.v) ∧ W.cell? ⟨X6, 4, none⟩ = some (.slice p.a p.args.length p.cap)) ∧ (W.cell? ⟨(X6 + 1), 0, none⟩ = some (.int .i64 q.kd) ∧ W.cell? ⟨(X6 + 1), 1, none⟩ = some (.int .i64 q.k) ∧ W.cell? ⟨(X6 + 1), 2, none⟩ = some (.int .i64 q.u) ∧ W.cell? ⟨(X6 + 1), 3, none⟩ = some (.int .i64 q.v) ∧ W.cell? ⟨(X6 + 1), 4, none⟩ = some (.slice q.a q.args.length q.cap)) ∧ (W.cell? ⟨X8, 0, none⟩ = some (.int .i64 g.kd) ∧ W.cell? ⟨X8, 1, none⟩ = some (.int .i64 g.k) ∧ W.cell? ⟨X8, 2, none⟩ = some (.int .i64 g.u) ∧ W.cell? ⟨X8, 3, none⟩ = some (.int .i64 g.v) ∧ W.cell? ⟨X8, 4, none⟩ = some (.slice g.a g.args.length g.cap)))
        (first | with_reducible exact ALL.out _ hD | with_reducible exact ALL.out _ H1 | with_reducible exact ALL.out _ H2 | with_reducible exact ALL.out _ H3 | with_reducible exact ALL.out _ H4 | with_reducible exact ALL.out _ H5 | with_reducible exact ALL.out _ H6 | with_reducible exact ALL.out _ H7 | with_reducible exact ALL.out _ H8 | with_reducible exact ALL.out _ H9 | with_reducible exact ALL.out _ H10 | with_reducible exact ALL.out _ H11)
        (first
          | (go_at_call 7; (refine (implSizeOf f _ (KEY.out _ hD).2.1.s).mono ?_); rintro e v1 ⟨rfl, hb1⟩; have H1 := hD.trans (hb1.mono hD.size))
          | (go_at_call 8; (refine (implDepthOf f _ (KEY.out _ H1).2.1.s).mono ?_); rw [HDEP.out]; rintro e v2 ⟨rfl, hb2⟩; have H2 := H1.trans (hb2.mono H1.size))
          | (go_at_call 12; (refine (implIsFormula nv f _ (KEY.out _ H2).2.1.s).mono ?_); rw [HFB.out]; rintro e v3 ⟨rfl, hb3⟩; have H3 := H2.trans (hb3.mono H2.size))
          | (go_at_call 13; (refine (specIsFormula nv f _ (KEY.out _ H3).2.1.s.small (KEY.out _ H3).2.1.s.in_).mono ?_); rw [HFB.out]; rintro e v4 ⟨rfl, hb4⟩; have H4 := H3.trans (hb4.mono H3.size))
          | (go_at_call 14; (refine (implEqual p q c HC.out _ (KEY.out _ H4).2.2.1.s (KEY.out _ H4).2.2.2.1.s HPR.out).mono ?_); rintro e v5 ⟨rfl, hb5⟩; have H5 := H4.trans (hb5.mono H4.size))
          | (go_at_call 15; (refine (specEqual p q c HC.out _ (p.short_of_size (KEY.out _ H5).2.2.1.s.small) (KEY.out _ H5).2.2.1.s.in_ (KEY.out _ H5).2.2.2.1.s.in_).mono ?_); rintro e v6 ⟨rfl, hb6⟩; have H6 := H5.trans (hb6.mono H5.size))
          | (go_at_call 17; (refine (implFreeLogic g _ (KEY.out _ H6).2.2.2.2.s (by have := HGS.out; omega)).mono ?_); rw [HFL.out]; rintro e v7 ⟨ga, gc, rfl, hgc, hgo, hb7⟩; rw [intVals_length] at hgo ⊢; have H7 := H6.trans (hb7.mono H6.size))
          | (go_at_call 18; (refine (specFreeLogic g _ (g.short_of_size (KEY.out _ H7).2.2.2.2.s.small) (Nat.le_trans (Fm.depth_le_size _) (by have := HGS.out; omega)) (KEY.out _ H7).2.2.2.2.s.in_).mono ?_); rw [HFL.out]; rintro e v8 ⟨pa, pc, rfl, hpc, hpo, hb8⟩; rw [intVals_length] at hpo ⊢; have H8 := H7.trans (hb8.mono H7.size))
          | (go_at_call 16; (refine (sameInts ga pa gc pc fl _ hfl4 (row_to (Row.owned hgo) hb8) (Row.owned hpo)).mono ?_); rintro e v9 ⟨m9, rfl, rfl⟩; have H9 := below_draws H8 m9)
          | (go_at_call 19; (refine (implArityOf kn _).mono ?_); rw [HAR.out]; rintro e v10 ⟨rfl, hb10⟩; have H10 := H9.trans (hb10.mono H9.size))
          | (go_at_call 20; (refine (specArityOf kn _).mono ?_); rw [HAR.out]; rintro e v11 ⟨rfl, rfl⟩; have H11 := H10))
      have hE := (KEY.out _ H11).1
      go_wp2_with fail
      go_ret
      exact ⟨rfl, hE⟩

theorem own : ownKnob Try.prog.godebug = none := by kernel_rfl
theorem laidOut : laidOutB Try.prog = true := by kernel_rfl
theorem cellsByte : Try.prog.cellsOf 5 = 1 := by kernel_rfl
set_option maxRecDepth 100000 in
theorem contract (H : Type) (enc : TypeId × Value → H) (W : World) (base : Nat) (args : Array Value) (ds gs : List (DataW H)) (before : List MemPlace)
    (hval : ∀ (j : Nat) t v, Try.f3.params[j]? = some t → args[j]? = some v → Value.okWide Try.prog W .any base t v)
    (hW : DataW.Whole enc Try.prog Try.f3.params.toList Rows.fnFormulasSpec.vars false W args.toList ds gs before)
    (_hL : laidMetH Try.prog Rows.fnFormulasRow.laid W) (_hSh : W.ShapedOpen Try.prog) :
    Calls Try.prog 3 args W fun e W' => ∃ v, e = .returned v ∧ Rows.fnFormulasSpec.post enc Try.prog Try.f3 false true false false W args v W' := by
  have hW' := hW
  have hlt : ∀ x ∈ before, x.block < W.heap.size := fun x hx => hW'.lt x hx
  obtain ⟨p, q, hA0, hV, rfl, _, _⟩ := hW
  have hA : DataW.TrodAll enc Try.prog W 0 (fun _ => true) true Try.f3.params.toList args.toList ds p := hA0
  rw [Try.params3] at hA hval
  obtain ⟨v0, d0, rfl, rfl, t0⟩ := trodAll_one hA
  obtain ⟨a0, n0, cap0, rfl, _, hn0, hcode0⟩ := open_codes Try.underlying22 Try.underlying5 cellsByte (fun x hx => hlt x (by simp [hx])) (base := base) (hval 0 22 v0 rfl rfl) t0
  refine (walk a0 n0 cap0 W hn0 hcode0).mono fun e W' ⟨he, hb⟩ => ?_
  subst he
  exact ⟨_, rfl, law_post laidOut rfl (by kernel_rfl) (by kernel_rfl) Try.underlying4 hW' rfl hb⟩

/-- A world for the witness. -/
noncomputable def start (os : Os) : World := World.holding Try.prog os ⟨#[], #[], []⟩
theorem laid_met (os : Os) : laidMet Try.prog Rows.fnFormulasRow.laid ((start os).forCall (fun _ _ => 0) ⟨#[], #[.slice none 0 0], []⟩).memory :=
  laidMet_of_run' 8 (by kernel_rfl) (by kernel_rfl)
theorem reads (os : Os) {H : Type} (enc : TypeId × Value → H) : ∃ places, DataW.whole enc Try.prog ((start os).forCall (fun _ _ => 0) ⟨#[], #[.slice none 0 0], []⟩).memory Try.f3.params.toList Rows.fnFormulasSpec.vars false #[Value.slice none 0 0].toList 8 = some ([.nil], [], places) :=
  ⟨[], by kernel_rfl⟩

set_option maxRecDepth 100000 in
theorem lifted (os : Os) (started : os.Started) (H : Type) (enc : TypeId × Value → H) (F : Stop.Interp) :
    ReturnsInHanded {} Try.checked os 3 .any ((OpenSpec.ofChange Rows.fnFormulasSpec).preRow enc Try.prog Try.f3 Rows.fnFormulasRow.domain false Rows.fnFormulasRow.laid) (((OpenSpec.ofChange Rows.fnFormulasSpec).at F).post enc Try.prog Try.f3 false true false false) := by
  obtain ⟨places, hx⟩ := reads os enc
  refine returnsInHanded_of_row (C := Try.checked) (s := OpenSpec.ofChange Rows.fnFormulasSpec) own started (by kernel_rfl) Try.func3
    (witness_row_at (enc := enc) (C := Try.checked) false (start os) #[.slice none 0 0] rfl (by kernel_rfl) (by kernel_rfl) (by kernel_rfl)
      (OpenSpec.preRow_of_cond 8 hx (by kernel_rfl) (fun k hk => by cases hk) (by kernel_rfl) (laid_met os))) ?_
  intro W base args ds gs before hval hW _ _ _ hL hSh _
  exact contract H enc W base args ds gs before hval hW hL hSh

theorem said : Rows.FnFormulasSaid :=
  OpenClaim.holds_of_cond 3 Try.f3 rfl rfl rfl rfl rfl rfl rfl ⟨rfl, rfl, rfl, rfl, rfl⟩ rfl rfl rfl rfl rfl (by kernel_rfl) Try.func3 (by kernel_rfl)
    (of_decide_eq_true (by kernel_rfl)) (by unfold Func.isWrapper; first | (rw [if_pos (by decide +kernel)]; kernel_rfl) | (rw [if_neg (by decide +kernel)]; exact ⟨rfl, rfl⟩))
    (fun os started H enc _ F => by rw [OpenClaim.pre_eq_preRow]; exact lifted os started H enc F)
#print axioms said
end Go.Proofs.Ythhhmlohfhioeaa.formulas
