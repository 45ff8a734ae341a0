/-
  The program's nodes with their rows of Next: a row of new structs, each with a part of the structure's row.
-/
import Derived.Test.YtplchhahjmoodaaDoorPairs
import Derived.Test.YtplchhahjmoodaaDoorAppendRow
import Derived.Deep.RegionLaw
import Derived.Deep.AppendLies
namespace Go.Proofs.YtplchhahjmoodaaDoor
open Go Go.RowKit Go.ChangeShapes Go.WideShapes Go.ChangeAt

/-- A node with its row of Next. -/
structure Lk where
  n : Nd
  e : Option Addr
  ce : Nat
  es : List Int
abbrev lkC (a : Option Addr) (n ca : Nat) (b : Option Addr) (m cb : Nat) (s q : Int) (e : Option Addr) (l ce : Nat) : Value := .agg #[.slice a n ca, .slice b m cb, .int .i64 s, .int .i64 q, .slice e l ce]
abbrev Lk.v (x : Lk) : Value := lkC x.n.h.a x.n.h.vs.length x.n.h.ca x.n.h.b x.n.h.zs.length x.n.h.cb x.n.s x.n.m x.e x.es.length x.ce
def lkCells (x : Lk) : List Value := [.slice x.n.h.a x.n.h.vs.length x.n.h.ca, .slice x.n.h.b x.n.h.zs.length x.n.h.cb, .int .i64 x.n.s, .int .i64 x.n.m, .slice x.e x.es.length x.ce]
theorem lkCells_length (x : Lk) : (lkCells x).length = 5 := rfl
def zeroNd : Nd := ⟨⟨none, 0, none, 0, [], []⟩, 0, 0⟩
/-- The i-th node of a structure with its row. -/
def linkAt (x : St) (b o : Nat) (i : Nat) : Lk := ⟨x.ns.getD i zeroNd, some ⟨b, o + i * x.ns.length, none⟩, x.cb - i * x.ns.length, (x.zs.drop (i * x.ns.length)).take x.ns.length⟩
def linksTo (x : St) (b o k : Nat) : List Lk := (List.range k).map (linkAt x b o)
theorem linksTo_succ (x : St) (b o k : Nat) : linksTo x b o (k + 1) = linksTo x b o k ++ [linkAt x b o k] := by simp [linksTo, List.range_succ]
theorem linksTo_length (x : St) (b o k : Nat) : (linksTo x b o k).length = k := by simp [linksTo]
theorem row_part {W : World} {B b o : Nat} {zs : List Int} (h : Row W B (some ⟨b, o, none⟩) (intVals zs)) (i n : Nat) : Row W B (some ⟨b, o + i, none⟩) (intVals ((zs.drop i).take n)) := by
  intro k x hx
  have hk : (intVals zs)[i + k]? = some x := by
    simp only [intVals, List.getElem?_map, List.getElem?_take, List.getElem?_drop] at hx ⊢
    split at hx
    · exact hx
    · simp at hx
  obtain ⟨b', o', e, hb, hc⟩ := h (i + k) x hk
  injection e with e
  injection e with e1 e2 _
  subst e1 e2
  exact ⟨b, o + i, rfl, hb, by rw [Nat.add_assoc]; exact hc⟩
theorem lkInfo : (Tryd.prog.info? 68).map (fun i => (i.zero, i.size, i.bytes)) = some (some (.agg #[.slice none 0 0, .slice none 0 0, .int .i64 0, .int .i64 0, .slice none 0 0]), 5, 88) := by kernel_rfl
/-- What linkedNodes answers. -/
def LinksEnd (x : St) (b o : Nat) (w : World) (e : Ending) (w' : World) : Prop :=
  ∃ va vc, e = .returned (.slice va x.ns.length vc) ∧ w'.ownsRow w.heap.size 68 5 (.slice va x.ns.length vc) x.ns.length (fl lkCells (linksTo x b o x.ns.length)) ∧ Below w.heap.size w w'
theorem lit5_news (w : World) (t : TypeId) (u0 u1 u2 u3 u4 : Value) : ∀ (j : Nat) (u : Value), [u0, u1, u2, u3, u4][j]? = some u → (w.alloc (.cells #[u0, u1, u2, u3, u4] t)).cell? ((⟨w.heap.size, 0, none⟩ : Addr).add j) = some u := by
  intro j u hu
  have h := (BoxL.new w [u0, u1, u2, u3, u4] t).c j u hu
  rw [add_plain, Nat.zero_add]
  exact h
theorem lit5_one (a b e : Option Addr) (n ca m cb l ce : Nat) (s q : Int) : ∀ u ∈ [Value.slice a n ca, .slice b m cb, .int .i64 s, .int .i64 q, .slice e l ce], u.oneCell' = true := by
  intro u hu
  simp only [List.mem_cons, List.not_mem_nil, or_false] at hu
  rcases hu with rfl | rfl | rfl | rfl | rfl <;> rfl
/-- A part of a row of numbers. -/
theorem elemInt : Tryd.prog.elem 35 = 3 := by kernel_rfl
theorem sizeInt1 (V : World) : (sizeOf 3).run Tryd.prog V = .ok 1 V := by kernel_rfl
theorem run_part (V : World) (b o len cap m n : Nat) (hn : 0 < n) (h : m + n ≤ cap) :
    (Instr.slice 35 (.slice (some ⟨b, o, none⟩) len cap) (some (.int .i64 (m : Int))) (some (.int .i64 ((m : Int) + (n : Int)))) none).run Tryd.prog V = .ok (.slice (some ⟨b, o + m, none⟩) n (cap - m)) V := by
  have h1 := run_slice_lh (P := Tryd.prog) (w := V) 35 (some ⟨b, o, none⟩) len cap (by rw [elemInt]; exact Tryd.underlying35) .i64 .i64 (m : Int) ((m : Int) + (n : Int)) (by omega) (by omega) (by omega)
  have e1 : ((m : Int)).toNat = m := by omega
  have e2 : ((m : Int) + (n : Int)).toNat = m + n := by omega
  rw [h1, e1, e2, elemInt, sizeInt1]
  show Result.ok (sliced (some ⟨b, o, none⟩) m (m + n) cap 1) V = _
  unfold sliced
  rw [if_neg (by omega), Nat.mul_one, Nat.add_sub_cancel_left]
  simp [Addr.add]
theorem links_nil (w : World) (a : Option Addr) (ca : Nat) (bb : Option Addr) (cb : Nat) (zs : List Int) (b o : Nat) :
    Calls Tryd.prog 37 #[heV a 0 ca bb zs.length cb] w (LinksEnd ⟨a, ca, [], bb, cb, zs⟩ b o w) := by
  have hE : ∀ W, Below w.heap.size w W → LinksEnd ⟨a, ca, [], bb, cb, zs⟩ b o w (.returned (.slice none 0 0)) W := fun W hb => ⟨none, 0, rfl, World.ownsRow_nil _ _ _ _, hb⟩
  have HE := Lib.hid hE
  clear hE
  go_enter Tryd.func37, Tryd.ntmps37
  go_wp2_with fail
  obtain ⟨W0, hW0, hb0, hs0, ⟨c0, c1⟩⟩ := one_box2 w (.slice a 0 ca) (.slice bb zs.length cb) 42
  rw [hW0]
  clear hW0
  go_wp2
  go_loopw [3, 11] (fun v i wr => v = .slice none 0 0 ∧ i = .int .i64 0 ∧ wr = W0) (fun _ _ _ => 0)
  case atStart => exact ⟨rfl, rfl, rfl⟩
  case round =>
    obtain ⟨rfl, rfl, rfl⟩ := hrel
    go_wp2
    go_ret
    exact HE.out _ hb0
theorem link_cells {a : Option Addr} {ca : Nat} {ns : List Nd} {b o cb : Nat} {zs : List Int} {k : Nat} (hlt : k < ns.length) (hsq : k * ns.length + ns.length ≤ zs.length) :
    lkCells (linkAt ⟨a, ca, ns, some ⟨b, o, none⟩, cb, zs⟩ b o k) = [.slice ns[k].h.a ns[k].h.vs.length ns[k].h.ca, .slice ns[k].h.b ns[k].h.zs.length ns[k].h.cb, .int .i64 ns[k].s, .int .i64 ns[k].m, .slice (some ⟨b, o + k * ns.length, none⟩) ns.length (cb - k * ns.length)] := by
  have hnk : ns.getD k zeroNd = ns[k] := by simp [hlt]
  unfold lkCells linkAt
  simp only [hnk]
  have : ((zs.drop (k * ns.length)).take ns.length).length = ns.length := by rw [List.length_take, List.length_drop]; omega
  rw [this]
theorem square_le {k n m : Nat} (h : k < n) (hm : m = n * n) : k * n + n ≤ m := by
  have h2 : (k + 1) * n ≤ n * n := Nat.mul_le_mul_right _ h
  rw [Nat.add_mul, Nat.one_mul] at h2
  omega
set_option maxRecDepth 100000 in
set_option maxHeartbeats 3200000 in
theorem implLinks (ba oa ca : Nat) (ns : List Nd) (b o cb : Nat) (zs : List Int) (w : World) (hn : ns.length ≤ 1048576) (hz : zs.length ≤ 1048576) (hcap : zs.length ≤ cb) (hlen : zs.length = ns.length * ns.length) (hat : St.At w ⟨some ⟨ba, oa, none⟩, ca, ns, some ⟨b, o, none⟩, cb, zs⟩) :
    Calls Tryd.prog 37 #[heV (some ⟨ba, oa, none⟩) ns.length ca (some ⟨b, o, none⟩) zs.length cb] w (LinksEnd ⟨some ⟨ba, oa, none⟩, ca, ns, some ⟨b, o, none⟩, cb, zs⟩ b o w) := by
  obtain ⟨i0, hi, hz0, hz1, hz2⟩ := info_parts lkInfo
  have HAT := Lib.hid (fun (W : World) (h : Below w.heap.size w W) => hat.below h)
  have HLEN := Lib.hid hlen
  clear hat hlen
  go_enter Tryd.func37, Tryd.ntmps37
  go_wp2_with fail
  obtain ⟨W0, hW0, hb0, hs0, hA0⟩ := one_box2 w (.slice (some ⟨ba, oa, none⟩) ns.length ca) (.slice (some ⟨b, o, none⟩) zs.length cb) 42
  rw [hW0]
  clear hW0
  have HA := Lib.hid (fun (W : World) (h : Below W0.heap.size W0 W) => And.intro (hA0.keep hs0 h) (hb0.trans (h.mono hb0.size)))
  obtain ⟨c0, c1⟩ := hA0
  go_wp2
  clear c0 c1
  go_loopw [3, 11] (fun v i wr => ∃ (k : Nat) (va : Option Addr) (vc : Nat), k ≤ ns.length ∧ i = .int .i64 k ∧ v = .slice va k vc ∧ wr.ownsRow W0.heap.size 68 5 v k (fl lkCells (linksTo ⟨some ⟨ba, oa, none⟩, ca, ns, some ⟨b, o, none⟩, cb, zs⟩ b o k)) ∧ Below W0.heap.size W0 wr) (fun _ i _ => ns.length - (intOf i).toNat)
  case atStart => exact ⟨0, none, 0, Nat.zero_le _, rfl, rfl, World.ownsRow_nil _ _ _ _, Below.refl _ _⟩
  case round =>
    obtain ⟨k, va, vc, hk, rfl, rfl, hown, hbw⟩ := hrel
    obtain ⟨⟨d0, d1⟩, hBw⟩ := HA.out _ hbw
    by_cases hlt : k < ns.length
    · obtain ⟨ba', oa', hae, hba, hitem, _⟩ := (HAT.out _ hBw).nodes.item k hlt
      injection hae with hae
      injection hae with e1 e2 _
      subst e1 e2
      have hsq := square_le hlt HLEN.out
      have HLK := Lib.hid (link_cells (a := some ⟨ba, oa, none⟩) (ca := ca) (b := b) (o := o) (cb := cb) hlt hsq)
      simp only at hitem
      generalize ns[k] = y at *
      obtain ⟨p0, p1, p2, p3⟩ := hitem
      have OD := Lib.hid (own_keeps hown (Below.drew (Below.refl _ _)))
      have ep1 : (k : Int) * (ns.length : Int) = ((k * ns.length : Nat) : Int) := (Int.natCast_mul _ _).symm
      have ep2 : ((k : Int) + 1) * (ns.length : Int) = ((k * ns.length + ns.length : Nat) : Int) := by rw [Int.add_mul, Int.one_mul, ep1]; rfl
      have HOWN := Lib.hid hown
      obtain ⟨m, hm⟩ : ∃ m, k * ns.length = m := ⟨_, rfl⟩
      rw [hm] at hsq HLK ep1 ep2
      have HM := Lib.hid hm
      clear hm
      have hlw : w.heap.size < wr.heap.size := Nat.lt_of_lt_of_le hs0 hbw.size
      clear hown
      go_wp2_with fail
      go_quiet (fail)
      go_wp2_with fail
      obtain ⟨W1, hW1⟩ : ∃ W1, (wr.alloc (.cells #[.slice y.h.a y.h.vs.length y.h.ca, .slice y.h.b y.h.zs.length y.h.cb, .int .i64 y.s, .int .i64 y.m] 66)).drewN nq = W1 := ⟨_, rfl⟩
      have hb1 : Below wr.heap.size wr W1 := by rw [← hW1]; exact below_draws ((Below.refl _ _).alloc (Nat.le_refl _) _) _
      have bx1 : BoxL W1 wr.heap.size [.slice y.h.a y.h.vs.length y.h.ca, .slice y.h.b y.h.zs.length y.h.cb, .int .i64 y.s, .int .i64 y.m] := by
        rw [← hW1]
        exact (BoxL.new wr [.slice y.h.a y.h.vs.length y.h.ca, .slice y.h.b y.h.zs.length y.h.cb, .int .i64 y.s, .int .i64 y.m] 66).below (below_draws (Below.refl _ _) _)
      rw [hW1]
      clear hW1
      have q0 := bx1.c 0 _ rfl
      have q1 := bx1.c 1 _ rfl
      have q2 := bx1.c 2 _ rfl
      have q3 := bx1.c 3 _ rfl
      have g1 := (hb1.cell (p := ⟨w.heap.size, 1, none⟩) hlw).trans d1
      have O1 := own_keeps HOWN.out (hb1.trans (Below.drew (Below.refl _ _)))
      have hB1 := hbw.trans (hb1.mono hbw.size)
      have hvc : W0.heap.size ≤ W1.heap.size := hB1.size
      have hsl := fun V => run_part V b o zs.length cb m ns.length (by omega) (by omega)
      clear p0 p1 p2 p3 d0 d1 bx1
      go_region_law (refine step_append_lies _ rfl (.tmp 27) (.tmp 35) 63 rfl W0.heap.size 68 i0 (.agg #[.slice none 0 0, .slice none 0 0, .int .i64 0, .int .i64 0, .slice none 0 0]) 5 88 Tryd.underlying63 hi hz0 hz1 hz2 rfl (by decide) (.slice va k vc) k (fl lkCells (linksTo ⟨some ⟨ba, oa, none⟩, ca, ns, some ⟨b, o, none⟩, cb, zs⟩ b o k)) ?_ (O1.alloc _) ⟨W1.heap.size, 0, none⟩ 1 1 [.slice y.h.a y.h.vs.length y.h.ca, .slice y.h.b y.h.zs.length y.h.cb, .int .i64 y.s, .int .i64 y.m, .slice (some ⟨b, o + m, none⟩) ns.length (cb - m)] ?_ rfl (lit5_news W1.drew _ _ _ _ _ _) (lit5_one _ _ _ _ _ _ _ _ _ _ _) (by omega) ?_ ?_ ?_ _ rfl ?_
                     · simp [Act.eval]
                     · simp [Act.eval]
                     · unfold maxLen; omega
                     · omega
                     · simp; omega
                     intro g9 cap9 w9 hown9 hg9 hat9 hlt9)
      all_goals
        have hE : w9.ownsRow W0.heap.size 68 5 (.slice (some ⟨g9, 0, none⟩) (k + 1) cap9) (k + 1) (fl lkCells (linksTo ⟨some ⟨ba, oa, none⟩, ca, ns, some ⟨b, o, none⟩, cb, zs⟩ b o (k + 1))) := by
          rw [linksTo_succ, fl_snoc, HLK.out]
          exact hown9
        have hbE : Below W0.heap.size W0 w9 := (hB1.drew.alloc (by simp; omega) _).grown hg9 (by simp; omega) (fun q hq => (O1.lt q hq).1)
        have HE := Lib.hid hE
        have HBE := Lib.hid hbE
        clear hE hbE hown9 hg9 hat9 O1 q0 q1 q2 q3 g1 hsl
        go_wp2
        go_roundw
        case rel => exact ⟨k + 1, some ⟨g9, 0, none⟩, cap9, by omega, by go_num, rfl, HE.out, HBE.out⟩
        case measure => simp [intOf]; omega
    · have hk' : k = ns.length := by omega
      subst hk'
      have HE := Lib.hid (show LinksEnd ⟨some ⟨ba, oa, none⟩, ca, ns, some ⟨b, o, none⟩, cb, zs⟩ b o w (.returned (.slice va ns.length vc)) wr from ⟨va, vc, rfl, own_base hown hb0.size, hBw⟩)
      clear hown
      go_wp2
      go_ret
      exact HE.out
end Go.Proofs.YtplchhahjmoodaaDoor
