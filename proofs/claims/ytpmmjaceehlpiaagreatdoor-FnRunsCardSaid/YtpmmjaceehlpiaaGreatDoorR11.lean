/-
  Several texts of one proof in one file, in the order in which they build.
-/
import Derived.Laws.IdiomCopy
import Derived.Deep.RegionLaw
import Derived.Deep.RegionHeld3
import Derived.Handy
import Derived.Maps.AppendAt
import Derived.Lib.QuietBelow
import Derived.Conc.MuLone
import Derived.Test.YtpmmjaceehlpiaaGreatDoorR06
import Derived.Test.YtpmmjaceehlpiaaGreatDoorR02
import Derived.Test.YtpmmjaceehlpiaaGreatDoorR08
/-
  Go's library over rows of numbers: a copy, a question, a cell taken out. The library's contracts are the shelf's.
-/
namespace Go.Proofs.YtpmmjaceehlpiaaGreatDoor
open Go Go.RowKit Go.ChangeShapes Go.WideShapes Go.ChangeAt

theorem row_cells {w : World} {B : Nat} {a : Option Addr} {ns : List Int} (h : Row w B a (intVals ns)) (hn : ns ≠ []) : ∃ b o, a = some ⟨b, o, none⟩ ∧ b < B ∧ ∀ j, j < ns.length → w.cell? ⟨b, o + j, none⟩ = some (.int .i64 (ns.getD j 0)) := by
  have h0 : 0 < ns.length := List.length_pos_iff.2 hn
  obtain ⟨b, o, rfl, hb, _⟩ := h 0 _ (intVals_at ns 0 h0)
  refine ⟨b, o, rfl, hb, fun j hj => ?_⟩
  obtain ⟨b', o', e, _, hc⟩ := h j _ (intVals_at ns j hj)
  injection e with e
  injection e with e1 e2
  subst e1 e2
  rw [hc]
  simp [hj]

theorem libContains (a : Option Addr) (c : Nat) (ns : List Int) (x : Int) (w : World) (hn : ns.length ≤ maxLen) (h : Row w w.heap.size a (intVals ns)) :
    Calls Tryz.prog 53 #[.slice a ns.length c, .int .i64 x] w fun e w' => e = .returned (.bool (decide (x ∈ ns))) ∧ w = w' := by
  by_cases h0 : ns = []
  · subst h0
    refine (Tryz.slices_Contains_int_empty a c x w).mono ?_
    rintro e w' ⟨rfl, rfl⟩
    exact ⟨by simp, rfl⟩
  · obtain ⟨b, o, rfl, _, hc⟩ := row_cells h h0
    refine (Tryz.slices_Contains_int b o ns.length c ns x w (Nat.le_refl _) (by unfold maxLen at hn; omega) hc).mono ?_
    rintro e w' ⟨rfl, rfl⟩
    exact ⟨by rw [List.take_length]; simp, rfl⟩

/-- A copy of a row of numbers. -/
def CopyInts (ns : List Int) (w : World) (e : Ending) (w' : World) : Prop :=
  ∃ a c, e = .returned (.slice a ns.length c) ∧ w'.ownsRow w.heap.size 3 1 (.slice a ns.length c) ns.length (intVals ns) ∧ Below w.heap.size w w'
theorem own_shape2 {w : World} {base e size n : Nat} {v : Value} {xs : List Value} (h : w.ownsRow base e size v n xs) : ∃ a c, v = .slice a n c := by
  rcases h.2 with ⟨rfl, rfl⟩ | ⟨g, cap, cur, rfl, _, _, hc, _⟩
  · exact ⟨_, _, rfl⟩
  · exact ⟨_, _, rfl⟩
theorem libClone (a : Option Addr) (c : Nat) (ns : List Int) (w : World) (hn : ns.length ≤ 1048576) (h : Row w w.heap.size a (intVals ns)) :
    Calls Tryz.prog 97 #[.slice a ns.length c] w (CopyInts ns w) := by
  by_cases h0 : ns = []
  · subst h0
    cases a with
    | none =>
      refine (Tryz.slices_Clone_int_nil 0 c w).mono ?_
      rintro e w' ⟨rfl, rfl⟩
      exact ⟨none, 0, rfl, World.ownsRow_nil _ _ _ _, Below.refl _ _⟩
    | some a =>
      refine (Tryz.slices_Clone_int_zero a c w).mono ?_
      rintro e w' ⟨v', rfl, ho, _, hb⟩
      obtain ⟨a', c', rfl⟩ := own_shape2 ho
      exact ⟨a', c', rfl, ho, hb⟩
  · obtain ⟨b, o, rfl, _, hc⟩ := row_cells h h0
    refine (Tryz.slices_Clone_int b o ns.length c ns w (Nat.le_refl _) (by omega) hc).mono ?_
    rintro e w' ⟨v', rfl, ho, _, hb⟩
    obtain ⟨a', c', rfl⟩ := own_shape2 ho
    rw [List.take_length] at ho
    exact ⟨a', c', rfl, ho, hb⟩

theorem own_cells {base e n cap g : Nat} : ∀ (us : List Value) (o : Nat) {w : World} {xs : List Value}, w.ownsRow base e 1 (.slice (some ⟨g, 0, none⟩) n cap) n xs → o + us.length = n →
    (w.setCells g o us).ownsRow base e 1 (.slice (some ⟨g, 0, none⟩) n cap) n (xs.take o ++ us) ∧ Turn g (g + 1) w (w.setCells g o us)
  | [], o, w, xs, h, hl => by
    have hx := h.1
    simp only [List.length_nil, Nat.add_zero, Nat.mul_one] at hl hx
    rw [List.append_nil, List.take_of_length_le (by omega)]
    exact ⟨h, Turn.of_below (Below.refl _ _)⟩
  | u :: us, o, w, xs, h, hl => by
    have hx := h.1
    simp only [List.length_cons, Nat.mul_one] at hl hx
    have h1 := own_cells us (o + 1) (h.stored o u).1 (by omega)
    have hset : (xs.set o u).take (o + 1) = xs.take o ++ [u] := by
      rw [List.take_succ_eq_append_getElem (by simp; omega)]
      simp [List.take_set_of_le]
    rw [hset, List.append_assoc] at h1
    exact ⟨h1.1, (turn_cell w g o u).trans h1.2⟩
where turn_cell (W : World) (b i : Nat) (u : Value) : Turn b (b + 1) W (W.setCell ⟨b, i, none⟩ u) :=
  ⟨rfl, rfl, rfl, by simp, fun k _ hd => Below.heap_setCell _ _ _ _ (by show k ≠ b; omega)⟩
theorem own_less {w : World} {base e n m cap g : Nat} {xs : List Value} (h : w.ownsRow base e 1 (.slice (some ⟨g, 0, none⟩) n cap) n xs) (hm : m ≤ n) : w.ownsRow base e 1 (.slice (some ⟨g, 0, none⟩) m cap) m (xs.take m) := by
  have hx := h.1
  rcases h.2 with ⟨hv, _⟩ | ⟨g', cap', cur, hv, hb, hg, hnc, hcm, hcs, ht⟩
  · cases hv
  · simp only [Value.slice.injEq, Option.some.injEq, Addr.mk.injEq, and_true, true_and] at hv
    obtain ⟨rfl, rfl⟩ := hv
    refine ⟨by simp; omega, .inr ⟨g, cap, cur, rfl, hb, hg, by omega, hcm, hcs, ?_⟩⟩
    rw [← ht, List.take_take]
    congr 1
    omega

/-- One cell taken out of a row that may be written. -/
def TakenInt (lo hi g k c : Nat) (ns : List Int) (w : World) (e : Ending) (w' : World) : Prop :=
  e = .returned (.slice (some ⟨g, 0, none⟩) (ns.length - 1) c) ∧ OwnIn lo hi w' 3 1 (.slice (some ⟨g, 0, none⟩) (ns.length - 1) c) (ns.length - 1) (intVals (ns.eraseIdx k)) ∧ Turn g (g + 1) w w'
theorem libDelete {lo hi g k c : Nat} {ns : List Int} {w : World} (hk : k < ns.length) (h : OwnIn lo hi w 3 1 (.slice (some ⟨g, 0, none⟩) ns.length c) ns.length (intVals ns)) :
    Calls Tryz.prog 168 #[.slice (some ⟨g, 0, none⟩) ns.length c, .int .i64 (k : Int), .int .i64 ((k + 1 : Nat) : Int)] w (TakenInt lo hi g k c ns w) := by
  have hcap : ns.length ≤ c ∧ c ≤ 9223372036854775807 := by
    rcases h.2.1.2 with ⟨hv, _⟩ | ⟨g', cap', cur, hv, hb, hg, hnc, hcm, hcs, ht⟩
    · cases hv
    · simp only [Value.slice.injEq, Option.some.injEq, Addr.mk.injEq, and_true, true_and] at hv
      obtain ⟨rfl, rfl⟩ := hv
      unfold maxLen at hcm
      omega
  have hfr := h.2.1.frozenAt
  have hrow := h.row
  obtain ⟨b, o, e, _, hc⟩ := row_cells hrow (fun e => by rw [e] at hk; simp at hk)
  injection e with e
  injection e with e1 e2
  subst e1 e2
  refine (Tryz.slices_Delete_int_cells g 0 ns.length c k (k + 1) ns w (Nat.le_refl _) hcap.1 hcap.2 (by omega) (by omega) hc (fun j _ => by rw [Nat.zero_add]; exact hfr j)).mono ?_
  rintro e w' ⟨rfl, q, rfl⟩
  rw [List.take_length, show k + 1 - k = 1 by omega]
  have hown : (w.drewN q).ownsRow lo 3 1 (.slice (some ⟨g, 0, none⟩) ns.length c) ns.length (intVals ns) := own_keeps h.2.1 (below_draws (Below.refl _ _) q)
  obtain ⟨h1, t1⟩ := own_cells (ns.take k ++ ns.drop (k + 1) ++ List.replicate 1 0 |>.map (Value.int .i64)) 0 hown (by simp; omega)
  have h2 := own_less h1 (m := ns.length - 1) (by omega)
  have T : Turn g (g + 1) w ((w.drewN q).setCells g 0 ((ns.take k ++ ns.drop (k + 1) ++ List.replicate 1 0).map (Value.int .i64))) := (Turn.of_below (below_draws (Below.refl _ _) q)).trans t1
  refine ⟨rfl, ⟨Nat.le_trans h.1 T.size, ?_, fun j hj => h.2.2 j hj⟩, T⟩
  have e : intVals (ns.eraseIdx k) = ((intVals ns).take 0 ++ (ns.take k ++ ns.drop (k + 1) ++ List.replicate 1 0).map (Value.int .i64)).take (ns.length - 1) := by
    rw [List.take_zero, List.nil_append, ← List.map_take, List.take_append_of_le_length (by simp; omega), List.take_of_length_le (by simp; omega), List.eraseIdx_eq_take_drop_succ]
    rfl
  rw [e]
  exact h2
end Go.Proofs.YtpmmjaceehlpiaaGreatDoor
/-
  What a statement makes of a heap, in plain words: a code, the variables' cells, the next cells (before lost cells are looked for). A heap whose rows are written: its variables' row, its cells' row.
-/
namespace Go.Proofs.YtpmmjaceehlpiaaGreatDoor
open Go Go.RowKit Go.ChangeShapes Go.WideShapes Go.ChangeAt

theorem three_boxL (w : World) (xs ys us : List Value) (t t' t'' : TypeId) : ∃ W0, ((w.alloc (.cells xs.toArray t)).alloc (.cells ys.toArray t')).alloc (.cells us.toArray t'') = W0 ∧ Below w.heap.size w W0 ∧ BoxL W0 w.heap.size xs ∧ BoxL W0 (w.heap.size + 1) ys ∧ BoxL W0 (w.heap.size + 2) us := by
  obtain ⟨W1, h1, hb1, b1, b2⟩ := two_boxL w xs ys t t'
  have h3 := BoxL.new W1 us t''
  have hs : W1.heap.size = w.heap.size + 2 := by rw [← h1]; simp
  have hb := (Below.refl W1.heap.size W1).alloc (Nat.le_refl _) (.cells us.toArray t'')
  rw [hs] at h3
  refine ⟨_, rfl, ?_, ?_, ?_, ?_⟩
  · rw [h1]; exact hb1.trans (hb.mono hb1.size)
  · rw [h1]; exact b1.below hb
  · rw [h1]; exact b2.below hb
  · rw [h1]; exact h3
abbrev Act3 := Int × List Int × List Int
def badC (k : Int) : Act3 := (k, [], [])
/-- The cells behind a freed one move up by one. -/
def lowC (c x : Int) : Int := if c < x then x - 1 else x
def freeS (pa : Nat) (vs zs : List Int) : Act3 :=
  if vs.getD pa (-1) = -1 then badC 2
  else if vs.getD pa (-1) ∈ vs.set pa (-1) ∨ vs.getD pa (-1) ∈ zs then badC 5
  else (0, (vs.set pa (-1)).map (lowC (vs.getD pa (-1))), (zs.eraseIdx (vs.getD pa (-1)).toNat).map (lowC (vs.getD pa (-1))))
def linkS (pa pb : Nat) (vs zs : List Int) : Act3 :=
  if vs.getD pa (-1) = -1 then badC 2
  else if vs.getD pa (-1) ∈ followed zs (vs.getD pb (-1)) then badC 3
  else (0, vs, zs.set (vs.getD pa (-1)).toNat (vs.getD pb (-1)))
def doS (k : Int) (pa pb : Nat) (vs zs : List Int) : Act3 :=
  if k = 1 then (0, vs, zs)
  else if k = 2 then (0, vs.set pa (-1), zs)
  else if k = 3 then if zs.length = 6 then badC 6 else (0, vs.set pa (zs.length : Int), zs ++ [-1])
  else if k = 4 then (0, vs.set pa (vs.getD pb (-1)), zs)
  else if k = 5 then if vs.getD pb (-1) = -1 then badC 2 else (0, vs.set pa (nextC zs (vs.getD pb (-1))), zs)
  else if k = 6 then if vs.getD pa (-1) = -1 then badC 2 else (0, vs, zs.set (vs.getD pa (-1)).toNat (-1))
  else if k = 7 then linkS pa pb vs zs
  else if k = 8 then freeS pa vs zs
  else if k = 9 then if vs.getD pa (-1) = -1 then (0, vs, zs) else badC 1
  else if k = 10 then if vs.getD pa (-1) = -1 then badC 1 else (0, vs, zs)
  else if k = 11 then if vs.getD pa (-1) = vs.getD pb (-1) then (0, vs, zs) else badC 1
  else if vs.getD pa (-1) = vs.getD pb (-1) then badC 1 else (0, vs, zs)
/-- A fault gives no heap; no list grows by more than one. -/
def Fine (vs zs : List Int) (r : Act3) : Prop := (r.1 ≠ 0 → r.2 = ([], [])) ∧ r.2.1.length ≤ vs.length ∧ r.2.2.length ≤ zs.length + 1
theorem fine_ite {vs zs : List Int} {c : Prop} [Decidable c] {x y : Act3} (h1 : Fine vs zs x) (h2 : Fine vs zs y) : Fine vs zs (if c then x else y) := by
  split
  · exact h1
  · exact h2
theorem fine_bad {vs zs : List Int} (k : Int) : Fine vs zs (badC k) := ⟨fun _ => rfl, Nat.zero_le _, Nat.zero_le _⟩
theorem fine_ok {vs zs vs' zs' : List Int} (h1 : vs'.length ≤ vs.length) (h2 : zs'.length ≤ zs.length + 1) : Fine vs zs (0, vs', zs') := ⟨fun h => absurd rfl h, h1, h2⟩
theorem doS_fine (k : Int) (pa pb : Nat) (vs zs : List Int) : Fine vs zs (doS k pa pb vs zs) := by
  unfold doS linkS freeS
  repeat' (first | exact fine_bad _ | apply fine_ite)
  all_goals refine fine_ok ?_ ?_
  all_goals first | (simp; done) | (simp only [List.length_map, List.length_eraseIdx]; split <;> omega)
theorem doS_bad {k : Int} {pa pb : Nat} {vs zs : List Int} (h : (doS k pa pb vs zs).1 ≠ 0) : doS k pa pb vs zs = badC (doS k pa pb vs zs).1 := Prod.ext rfl ((doS_fine k pa pb vs zs).1 h)

/-- What Exec comes to. -/
def execS (ss : List ByteArray) (k : Int) (a b : ByteArray) (vs zs : List Int) : Act3 :=
  if stmtB ss k a b = true ∧ heapB (ss.length : Int) vs zs = true then
    if (doS k (place ss a).toNat (place ss b).toNat vs zs).1 = 0 then
      if leakB (doS k (place ss a).toNat (place ss b).toNat vs zs).2.1 (doS k (place ss a).toNat (place ss b).toNat vs zs).2.2 = true then badC 4
      else (0, canonVs (doS k (place ss a).toNat (place ss b).toNat vs zs).2.1 (doS k (place ss a).toNat (place ss b).toNat vs zs).2.2, canonNs (doS k (place ss a).toNat (place ss b).toNat vs zs).2.1 (doS k (place ss a).toNat (place ss b).toNat vs zs).2.2)
    else badC (doS k (place ss a).toNat (place ss b).toNat vs zs).1
  else badC 7

/-- What a test of a heap says of its parts. -/
theorem heapB_parts {n : Int} {vs zs : List Int} (h : heapB n vs zs = true) : (1 ≤ vs.length ∧ vs.length ≤ 4 ∧ (vs.length : Int) = n) ∧ zs.length ≤ 6 ∧ goodB zs vs = true ∧ goodB zs zs = true ∧ acyc zs = true := by
  simp only [heapB, Bool.and_eq_true, decide_eq_true_eq] at h
  obtain ⟨⟨⟨h1, hg⟩, ha⟩, _⟩ := h
  exact ⟨⟨by omega, by omega, h1.2.2.1⟩, h1.2.2.2, (goodH_parts hg).1, (goodH_parts hg).2, ha⟩

theorem getD_at {l : List Int} {k : Nat} (h : k < l.length) : l.getD k (-1) = l[k] := by simp [h]

section
variable {lo hi : Nat} {W W' : World} {a b : Option Addr} {ca cb : Nat} {vs zs : List Int}
theorem HeapIn.setV {g k : Nat} (x : Int) (h : HeapIn lo hi W (some ⟨g, 0, none⟩) ca b cb (intVals vs) (intVals zs)) : HeapIn lo hi (W.setCell ⟨g, k, none⟩ (.int .i64 x)) (some ⟨g, 0, none⟩) ca b cb (intVals (vs.set k x)) (intVals zs) := by
  have ts := turn_set W g k (.int .i64 x)
  have el : (vs.set k x).length = vs.length := List.length_set
  have em : intVals (vs.set k x) = (intVals vs).set k (.int .i64 x) := by simp [intVals, List.map_set]
  have hv5 := h.v
  have hz5 := h.z
  have hap := h.apart
  have hap' := hap g (by rw [intVals_length]; rfl)
  refine ⟨?_, ⟨Nat.le_trans hz5.1 ts.size, own_other hz5.2.1 (grown_cell (i := k) (u := .int .i64 x) (grown_self W (some g))) (fun j hj e => hap' (e ▸ hj)), hz5.2.2⟩, ?_⟩
  · rw [intVals_length, el, em]
    rw [intVals_length] at hv5
    exact hv5.again (Nat.le_trans hv5.1 ts.size) (hv5.2.1.stored k (.int .i64 x)).1
  · rw [intVals_length, el]
    rw [intVals_length] at hap
    exact hap
theorem HeapIn.setZ {g k : Nat} (x : Int) (h : HeapIn lo hi W a ca (some ⟨g, 0, none⟩) cb (intVals vs) (intVals zs)) : HeapIn lo hi (W.setCell ⟨g, k, none⟩ (.int .i64 x)) a ca (some ⟨g, 0, none⟩) cb (intVals vs) (intVals (zs.set k x)) := by
  have ts := turn_set W g k (.int .i64 x)
  have el : (zs.set k x).length = zs.length := List.length_set
  have em : intVals (zs.set k x) = (intVals zs).set k (.int .i64 x) := by simp [intVals, List.map_set]
  have hv5 := h.v
  have hz5 := h.z
  have hap := h.apart
  refine ⟨⟨Nat.le_trans hv5.1 ts.size, own_other hv5.2.1 (grown_cell (i := k) (u := .int .i64 x) (grown_self W (some g))) (fun j hj e => hap j hj (by rw [intVals_length]; exact e.symm)), hv5.2.2⟩, ?_, ?_⟩
  · rw [intVals_length, el, em]
    rw [intVals_length] at hz5
    exact hz5.again (Nat.le_trans hz5.1 ts.size) (hz5.2.1.stored k (.int .i64 x)).1
  · rw [intVals_length, intVals_length, el]
    rw [intVals_length, intVals_length] at hap
    exact hap
/-- An own row of at least one cell has a block. -/
theorem OwnIn.block_ {e n c : Nat} {xs : List Value} (h : OwnIn lo hi W e 1 (.slice a n c) n xs) (hn : 0 < n) : ∃ g, a = some ⟨g, 0, none⟩ ∧ lo ≤ g ∧ g < hi := by
  rcases h.2.1.2 with ⟨_, h0⟩ | ⟨g, _, _, hv, hg, _⟩
  · omega
  · injection hv with hv _ _
    exact ⟨g, hv, hg, h.2.2 g (by rw [hv]; rfl)⟩
theorem OwnIn.cellInt {e c g : Nat} {xs : List Int} (h : OwnIn lo hi W e 1 (.slice (some ⟨g, 0, none⟩) (intVals xs).length c) (intVals xs).length (intVals xs)) (k : Nat) (hk : k < xs.length) : W.cell? ⟨g, k, none⟩ = some (.int .i64 xs[k]) := by
  have h1 := h.2.1.cells (g := g) rfl k _ (intVals_at xs k hk)
  rw [add_plain] at h1
  simpa using h1
theorem OwnIn.frozen_ {e n c g : Nat} {xs : List Value} (h : OwnIn lo hi W e 1 (.slice (some ⟨g, 0, none⟩) n c) n xs) (k : Nat) : W.frozen? ⟨g, k, none⟩ = false := h.2.1.frozenAt k
end

/-- The heap's blocks. -/
def blocksH (a b : Option Addr) (n ca m cb : Nat) (k : Nat) : Prop := (Value.slice a n ca).ownBlock = some k ∨ (Value.slice b m cb).ownBlock = some k
theorem blocksH_any {a b : Option Addr} {n ca m cb n' ca' m' cb' k : Nat} (h : blocksH a b n ca m cb k) : blocksH a b n' ca' m' cb' k := by
  cases a <;> cases b <;> exact h
/-- Only blocks from lo on, below hi, for which S holds, may have turned. -/
structure TurnB (lo hi : Nat) (S : Nat → Prop) (w w' : World) : Prop where
  t : Turn lo hi w w'
  o : ∀ k, k < w.heap.size → ¬ S k → w'.heap[k]? = w.heap[k]?
section
variable {lo hi : Nat} {S : Nat → Prop} {w W W' : World}
theorem TurnB.size (h : TurnB lo hi S w W) : w.heap.size ≤ W.heap.size := h.t.size
theorem TurnB.of_below (h : Below w.heap.size w W) : TurnB lo hi S w W := ⟨Turn.of_below h, fun k hk _ => h.block k hk⟩
theorem TurnB.trans (h : TurnB lo hi S w W) (k : TurnB lo hi S W W') : TurnB lo hi S w W' := ⟨h.t.trans k.t, fun j hj hd => (k.o j (Nat.lt_of_lt_of_le hj h.size) hd).trans (h.o j hj hd)⟩
/-- What is written at blocks that are new to w. -/
theorem TurnB.setNew (t : TurnB lo hi S w W) {Q i : Nat} {u : Value} (hQ : w.heap.size ≤ Q) : TurnB lo hi S w (W.setCell ⟨Q, i, none⟩ u) :=
  ⟨⟨t.t.os, t.t.tape, t.t.output, by simpa using t.size, fun k hk hd => (Below.heap_setCell _ _ _ _ (by show k ≠ Q; omega)).trans (t.t.block k hk hd)⟩,
    fun k hk hd => (Below.heap_setCell _ _ _ _ (by show k ≠ Q; omega)).trans (t.o k hk hd)⟩
theorem TurnB.draws (h : TurnB lo hi S w W) : TurnB lo hi S w W.drew := h.trans (TurnB.of_below (Below.drew (Below.refl _ _)))
theorem TurnB.of_one {q : Nat} (t : Turn q (q + 1) w W) (h1 : lo ≤ q) (h2 : q < hi) (hS : S q) : TurnB lo hi S w W :=
  ⟨t.mono h1 (by omega), fun k hk hd => t.block k hk (by have : k ≠ q := fun e => hd (e ▸ hS); omega)⟩
theorem turnB_at {g k : Nat} (u : Value) (h1 : lo ≤ g) (h2 : g < hi) (hS : S g) : TurnB lo hi S w (w.setCell ⟨g, k, none⟩ u) := TurnB.of_one (turn_set w g k u) h1 h2 hS
theorem TurnB.of_grown {r : Option Nat} (h : w.grownBy W r) (hr : ∀ k, r = some k → lo ≤ k ∧ k < hi ∧ S k) : TurnB lo hi S w W :=
  ⟨Turn.of_grown h fun k hk => ⟨(hr k hk).1, (hr k hk).2.1⟩, fun k hk hd => h.block k hk fun e => hd (hr k e.symm).2.2⟩
theorem BoxL.turnB {g : Nat} {xs : List Value} (h : BoxL w g xs) (t : TurnB lo hi S w W) (hd : ¬ S g) : BoxL W g xs :=
  ⟨fun i x hx => (World.cell?_of_block (t.o g h.lt hd)).trans (h.c i x hx), fun o => (World.frozen?_of_block (t.o g h.lt hd)).trans (h.f o), Nat.lt_of_lt_of_le h.lt t.size⟩
end

/-- A statement's action on a heap that may be written: what it answers, and that only the heap's blocks (S) have turned. -/
def Acted (lo hi : Nat) (S : Nat → Prop) (r : Act3) (w : World) (e : Ending) (w' : World) : Prop :=
  ∃ a ca b cb, e = .returned (.tuple #[heV a r.2.1.length ca b r.2.2.length cb, .int .i64 r.1]) ∧ HeapIn lo w'.heap.size w' a ca b cb (intVals r.2.1) (intVals r.2.2) ∧ TurnB lo hi S w w' ∧ (∀ k, blocksH a b r.2.1.length ca r.2.2.length cb k → S k ∨ w.heap.size ≤ k)
theorem heapIn_nil {lo hi : Nat} {W : World} (h : hi ≤ W.heap.size) : HeapIn lo hi W none 0 none 0 (intVals []) (intVals []) :=
  ⟨⟨h, World.ownsRow_nil _ _ _ _, fun k hk => by cases hk⟩, ⟨h, World.ownsRow_nil _ _ _ _, fun k hk => by cases hk⟩, fun j hj => by cases hj⟩
theorem acted_bad {lo hi : Nat} {S : Nat → Prop} {k : Int} {w w' : World} (h : TurnB lo hi S w w') : Acted lo hi S (badC k) w (.returned (.tuple #[heV none 0 0 none 0 0, .int .i64 k])) w' :=
  ⟨none, 0, none, 0, rfl, heapIn_nil (Nat.le_refl _), h, fun k hk => by rcases hk with hk | hk <;> cases hk⟩
end Go.Proofs.YtpmmjaceehlpiaaGreatDoor
/-
  The program's question for a cell that no variable reaches.
-/
namespace Go.Proofs.YtpmmjaceehlpiaaGreatDoor
open Go Go.RowKit Go.Maps Go.Sort

theorem lenMap {w : World} {mb : Nat} {o : List Int} (hn : o.Nodup) (h : Numbers Unit w mb o) (ty : TypeId) : (Builtin.len_ #[152] ty #[.map (some mb)]).run Tryz.prog w = .ok (.int .i64 (o.length : Int)) w := by
  have := World.ownsMap.len h Tryz.underlying152 ty
  rw [(says (H := Unit) hn).size_] at this
  exact this
set_option maxRecDepth 100000 in
set_option maxHeartbeats 1600000 in
theorem implHasLeak (a b : Option Addr) (ca cb : Nat) (vs zs : List Int) (w : World) (hv : vs.length ≤ 1048576) (hz : zs.length ≤ 1048576) (h : HeapAt w a b vs zs) :
    Calls Tryz.prog 135 #[heV a vs.length ca b zs.length cb] w (GaveX (.bool (leakB vs zs)) w) := by
  go_enter Tryz.func135, Tryz.ntmps135
  go_wp2_with fail
  obtain ⟨W0, hW0, hb0, hs0, hA0⟩ := one_box2 w (.slice a vs.length ca) (.slice b zs.length cb) 30
  rw [hW0]
  clear hW0
  obtain ⟨c0, c1⟩ := hA0
  have hA0 : Box2 W0 w.heap.size (.slice a vs.length ca) (.slice b zs.length cb) := ⟨c0, c1⟩
  have hS : ∀ W, Below W0.heap.size W0 W → W.cell? ⟨w.heap.size, 0, none⟩ = some (.slice a vs.length ca) ∧ W.cell? ⟨w.heap.size, 1, none⟩ = some (.slice b zs.length cb) := fun W hb => hA0.keep hs0 hb
  have hat : ∀ W, Below W0.heap.size W0 W → HeapAt W a b vs zs := fun W hb => h.below (hb0.trans (hb.mono hb0.size)) (Nat.le_refl _)
  have hD : ∀ n, Below W0.heap.size W0 (W0.drewN n) := fun n => below_draws (Below.refl _ _) n
  cases hg : goodB zs zs with
  | false =>
    have hl := Lib.hid (leak_bad (vs := vs) hg)
    replace c0 := fun d os => cell_regrown c0 d os
    replace c1 := fun d os => cell_regrown c1 d os
    have HC := Lib.hid (show ∀ d os, Calls Tryz.prog 94 #[heV a vs.length ca b zs.length cb, .slice b zs.length cb] (grow (redrawn W0 d) os) (GaveX (.bool false) (grow (redrawn W0 d) os)) from fun d os => hg ▸ implAreTargets a b b vs.length ca cb cb zs zs _ hz ((hat _ (Below.refl _ _)).again d os).z)
    clear hS hat hD
    refine wp_region_quiet_below (by kernel_rfl) (by kernel_rfl) ?_
    repeat (go_big_quiet_step (first | (go_at_call 94; with_reducible exact at_again (HC.out _ _))))
    refine wpQuiet_nil ?_
    rintro w1 ⟨⟨d, os⟩, rfl⟩
    have H1 := below_regrown W0 d os
    go_wp2
    go_ret
    rw [hl.out]
    exact ⟨rfl, hb0.trans (H1.mono hb0.size)⟩
  | true =>
    have hl := Lib.hid (leak_good (vs := vs) hg)
    have HAT := Lib.hid hat
    have HS := Lib.hid hS
    have HD := Lib.hid hD
    clear hat hS hD hA0 c0 c1
    obtain ⟨c0, c1⟩ := HS.out _ (Below.refl _ _)
    go_region_law
      (first
        | (go_simp; go_at_call 94; (with_reducible refine (implAreTargets a b b vs.length ca cb cb zs zs _ hz (HAT.out _ (Below.drew (Below.refl _ _))).z).mono ?_); rw [hg]; rintro e w1 ⟨rfl, hb1⟩; have H1 := (Below.drew (Below.refl W0.heap.size W0)).trans hb1; have d0 := (HS.out _ H1).1; have d1 := (HS.out _ H1).2)
        | (go_simp; go_at_call 131; (with_reducible refine (implNumbersOf a b ca cb vs zs _ hv hz (HAT.out _ H1)).mono ?_); rintro e w2 ⟨mb, rfl, hmb, hnum, hb2⟩; have H2 := H1.trans (hb2.mono (Below.size H1)); have d2 := (HS.out _ H2).1; have d3 := (HS.out _ H2).2; have hml := lenMap (order_end vs zs).nodup hnum))
    all_goals
      go_wp2
      go_ret
      rw [hl.out]
      exact ⟨rfl, hb0.trans (H2.mono hb0.size)⟩
end Go.Proofs.YtpmmjaceehlpiaaGreatDoor
/-
  The program's actions on a heap that may be written, one a kind of statement.
-/
namespace Go.Proofs.YtpmmjaceehlpiaaGreatDoor
open Go Go.RowKit Go.ChangeShapes Go.WideShapes Go.ChangeAt

theorem acted_ok {lo hi : Nat} {S : Nat → Prop} {w W1 w' : World} {a b : Option Addr} {ca cb : Nat} {vs zs : List Int} (h : HeapIn lo hi W1 a ca b cb (intVals vs) (intVals zs)) (t : TurnB lo hi S w W1) (hb : Below W1.heap.size W1 w') (hS : ∀ k, blocksH a b vs.length ca zs.length cb k → S k ∨ w.heap.size ≤ k) :
    Acted lo hi S (0, vs, zs) w (.returned (.tuple #[heV a vs.length ca b zs.length cb, .int .i64 0])) w' :=
  ⟨a, ca, b, cb, rfl, (h.below hb).mono (Nat.le_refl _) (Nat.le_trans h.v.1 hb.size) (Nat.le_refl _), t.trans (TurnB.of_below hb), hS⟩
theorem acted_to {lo hi n m : Nat} {S : Nat → Prop} {w W1 w' : World} {a b : Option Addr} {ca cb : Nat} {vs zs : List Int} (h : HeapIn lo hi W1 a ca b cb (intVals vs) (intVals zs)) (t : TurnB lo hi S w W1) (hn : vs.length = n) (hm : zs.length = m) (hb : Below W1.heap.size W1 w') (hS : ∀ k, blocksH a b vs.length ca zs.length cb k → S k ∨ w.heap.size ≤ k := by intro k hk; exact Or.inl (blocksH_any hk)) :
    Acted lo hi S (0, vs, zs) w (.returned (.tuple #[heV a n ca b m cb, .int .i64 0])) w' := by
  subst hn hm
  exact acted_ok h t hb hS
theorem two_below (w : World) (x y : Obj) : Below w.heap.size w ((w.alloc x).alloc y) := ((Below.refl _ _).alloc (Nat.le_refl _) _).alloc (by simp) _
theorem getD_cell {l : List Int} {k : Nat} (h : k < l.length) : l.getD k (-1) = l[k] := by simp [h]
/-- A variable's cell, if it is one. -/
theorem var_cell {zs vs : List Int} {k : Nat} (hk : k < vs.length) (hg : goodB zs vs = true) (hn : vs[k] ≠ -1) : ∃ c : Nat, vs[k] = (c : Int) ∧ c < zs.length := by
  rcases goodB_at hg (List.getElem_mem hk) with h | h
  · exact absurd h hn
  · exact isC_nat h

theorem HeapIn.setNot {lo hi : Nat} {W : World} {a b : Option Addr} {ca cb : Nat} {vs zs : List Int} {Q i : Nat} {u : Value} (h : HeapIn lo hi W a ca b cb (intVals vs) (intVals zs)) (hne : ∀ k, blocksH a b vs.length ca zs.length cb k → k ≠ Q) :
    HeapIn lo hi (W.setCell ⟨Q, i, none⟩ u) a ca b cb (intVals vs) (intVals zs) := by
  have hv := h.v
  have hz := h.z
  have hap := h.apart
  rw [intVals_length, intVals_length] at hap
  rw [intVals_length] at hv hz
  refine ⟨?_, ?_, ?_⟩
  · rw [intVals_length]
    exact ⟨by simpa using hv.1, own_other hv.2.1 (grown_cell (grown_self W (some Q))) (fun k hk e => hne k (.inl hk) (Option.some.inj e)), hv.2.2⟩
  · rw [intVals_length]
    exact ⟨by simpa using hz.1, own_other hz.2.1 (grown_cell (grown_self W (some Q))) (fun k hk e => hne k (.inr hk) (Option.some.inj e)), hz.2.2⟩
  · rw [intVals_length, intVals_length]
    exact hap
theorem acted_of {lo hi n m : Nat} {S : Nat → Prop} {w w' : World} {a b : Option Addr} {ca cb : Nat} {vs zs : List Int} (hn : vs.length = n) (hm : zs.length = m) (h : HeapIn lo w'.heap.size w' a ca b cb (intVals vs) (intVals zs)) (t : TurnB lo hi S w w') (hS : ∀ k, blocksH a b vs.length ca zs.length cb k → S k ∨ w.heap.size ≤ k := by intro k hk; exact Or.inl (blocksH_any hk)) :
    Acted lo hi S (0, vs, zs) w (.returned (.tuple #[heV a n ca b m cb, .int .i64 0])) w' := by
  subst hn hm
  exact ⟨a, ca, b, cb, rfl, h, t, hS⟩
theorem HeapIn.blocks {lo hi : Nat} {W : World} {a b : Option Addr} {ca cb : Nat} {vs zs : List Int} (h : HeapIn lo hi W a ca b cb (intVals vs) (intVals zs)) : ∀ k, blocksH a b vs.length ca zs.length cb k → lo ≤ k ∧ k < hi := by
  have hv := h.v
  have hz := h.z
  rw [intVals_length] at hv hz
  rintro k (e | e)
  · exact ⟨(hv.2.1.lt k e).1, hv.2.2 k e⟩
  · exact ⟨(hz.2.1.lt k e).1, hz.2.2 k e⟩
/-- The answer is written into a box that is new to w. -/
theorem heap_box {lo hi Q : Nat} {S : Nat → Prop} {w W2 : World} {a b : Option Addr} {ca cb : Nat} {vs zs : List Int} {u v : Value} (h2 : HeapIn lo hi W2 a ca b cb (intVals vs) (intVals zs)) (T2 : TurnB lo hi S w W2) (hhi : hi ≤ w.heap.size) (hQ : w.heap.size ≤ Q) :
    HeapIn lo ((W2.setCell ⟨Q, 0, none⟩ u).setCell ⟨Q, 1, none⟩ v).heap.size ((W2.setCell ⟨Q, 0, none⟩ u).setCell ⟨Q, 1, none⟩ v) a ca b cb (intVals vs) (intVals zs) ∧ TurnB lo hi S w ((W2.setCell ⟨Q, 0, none⟩ u).setCell ⟨Q, 1, none⟩ v) := by
  have hbl := h2.blocks
  have hs : ((W2.setCell ⟨Q, 0, none⟩ u).setCell ⟨Q, 1, none⟩ v).heap.size = W2.heap.size := by simp
  refine ⟨?_, (T2.setNew hQ).setNew hQ⟩
  rw [hs]
  exact ((h2.setNot (Q := Q) fun k hk => by have := hbl k hk; omega).setNot (Q := Q) fun k hk => by have := hbl k hk; omega).mono (Nat.le_refl _) h2.v.1 (by rw [hs]; exact Nat.le_refl _)
theorem HeapIn.draws {lo hi : Nat} {W : World} {a b : Option Addr} {ca cb : Nat} {vs zs : List Value} (h : HeapIn lo hi W a ca b cb vs zs) : HeapIn lo hi W.drew a ca b cb vs zs := h.below (Below.drew (Below.refl _ _))
set_option maxHeartbeats 800000 in
theorem implDoSkip {lo hi : Nat} {a b : Option Addr} {ca cb : Nat} {vs zs : List Int} (x y : Int) {w : World} (h : HeapIn lo hi w a ca b cb (intVals vs) (intVals zs)) :
    Calls Tryz.prog 147 #[heV a vs.length ca b zs.length cb, .int .i64 x, .int .i64 y] w (Acted lo hi (blocksH a b vs.length ca zs.length cb) (0, vs, zs) w) := by
  go_enter Tryz.func147, Tryz.ntmps147
  go_wp2
  refine bodyPost_ret (v := .tuple #[heV a vs.length ca b zs.length cb, .int .i64 0]) (by simp [results, Tryz.results147, go_sem]) rfl ?_
  refine acted_to h (TurnB.of_below (Below.refl _ _)) rfl rfl ?_
  repeat (first | with_reducible exact Below.refl _ _ | refine Below.drew ?_ | refine Below.alloc ?_ (by simp <;> omega) _ | refine Below.setCell ?_ (by simp <;> omega) _)

set_option maxHeartbeats 800000 in
theorem implDoNull {lo hi pa : Nat} {a b : Option Addr} {ca cb : Nat} {vs zs : List Int} (y : Int) {w : World} (h : HeapIn lo hi w a ca b cb (intVals vs) (intVals zs)) (hp : pa < vs.length) :
    Calls Tryz.prog 148 #[heV a vs.length ca b zs.length cb, .int .i64 pa, .int .i64 y] w (Acted lo hi (blocksH a b vs.length ca zs.length cb) (0, vs.set pa (-1), zs) w) := by
  obtain ⟨g, rfl, hg1, hg2⟩ := h.v.block_ (by rw [intVals_length]; omega)
  have hhi := h.v.1
  have n0 : ¬ w.heap.size = g := by omega
  have n1 : ¬ w.heap.size + 1 = g := by omega
  have n2 : g < w.heap.size := by omega
  have n3 : g < w.heap.size + 1 := by omega
  have hold := h.v.cellInt pa hp
  have hfr := h.v.frozen_ pa
  go_enter Tryz.func148, Tryz.ntmps148
  go_wp2
  refine bodyPost_ret (v := .tuple #[heV (some ⟨g, 0, none⟩) vs.length ca b zs.length cb, .int .i64 0]) (by simp [results, Tryz.results148, go_sem]) rfl ?_
  refine acted_to (h.setV (k := pa) (-1)) (turnB_at _ hg1 hg2 (.inl rfl)) List.length_set rfl ?_
  repeat (first | with_reducible exact Below.refl _ _ | refine Below.drew ?_ | refine Below.alloc ?_ (by simp <;> omega) _ | refine Below.setCell ?_ (by simp <;> omega) _)

set_option maxHeartbeats 800000 in
theorem implDoCopy {lo hi pa pb : Nat} {a b : Option Addr} {ca cb : Nat} {vs zs : List Int} {w : World} (h : HeapIn lo hi w a ca b cb (intVals vs) (intVals zs)) (hp : pa < vs.length) (hq : pb < vs.length) :
    Calls Tryz.prog 150 #[heV a vs.length ca b zs.length cb, .int .i64 pa, .int .i64 pb] w (Acted lo hi (blocksH a b vs.length ca zs.length cb) (0, vs.set pa (vs.getD pb (-1)), zs) w) := by
  rw [getD_cell hq]
  obtain ⟨g, rfl, hg1, hg2⟩ := h.v.block_ (by rw [intVals_length]; omega)
  have hhi := h.v.1
  have n0 : ¬ w.heap.size = g := by omega
  have n1 : ¬ w.heap.size + 1 = g := by omega
  have n2 : g < w.heap.size := by omega
  have n3 : g < w.heap.size + 1 := by omega
  have hold := h.v.cellInt pa hp
  have hsrc := h.v.cellInt pb hq
  have hfr := h.v.frozen_ pa
  go_enter Tryz.func150, Tryz.ntmps150
  go_wp2
  go_region
  all_goals
    go_wp2
    refine bodyPost_ret (v := .tuple #[heV (some ⟨g, 0, none⟩) vs.length ca b zs.length cb, .int .i64 0]) (by simp [results, Tryz.results150, go_sem]) rfl ?_
    refine acted_to (h.setV (k := pa) vs[pb]) (turnB_at _ hg1 hg2 (.inl rfl)) List.length_set rfl ?_
    repeat (first | with_reducible exact Below.refl _ _ | refine Below.drew ?_ | refine Below.alloc ?_ (by simp <;> omega) _ | refine Below.setCell ?_ (by simp <;> omega) _)

set_option maxHeartbeats 800000 in
theorem implDoNext {lo hi pa pb : Nat} {a b : Option Addr} {ca cb : Nat} {vs zs : List Int} {w : World} (h : HeapIn lo hi w a ca b cb (intVals vs) (intVals zs)) (hp : pa < vs.length) (hq : pb < vs.length) (hgv : goodB zs vs = true) :
    Calls Tryz.prog 151 #[heV a vs.length ca b zs.length cb, .int .i64 pa, .int .i64 pb] w (Acted lo hi (blocksH a b vs.length ca zs.length cb) (if vs.getD pb (-1) = -1 then badC 2 else (0, vs.set pa (nextC zs (vs.getD pb (-1))), zs)) w) := by
  rw [getD_cell hq]
  obtain ⟨g, rfl, hg1, hg2⟩ := h.v.block_ (by rw [intVals_length]; omega)
  have hhi := h.v.1
  have n0 : ¬ w.heap.size = g := by omega
  have n1 : ¬ w.heap.size + 1 = g := by omega
  have n2 : g < w.heap.size := by omega
  have n3 : g < w.heap.size + 1 := by omega
  have hold := h.v.cellInt pa hp
  have hsrc := h.v.cellInt pb hq
  have hfr := h.v.frozen_ pa
  by_cases hn : vs[pb] = -1
  · rw [if_pos hn]
    rw [hn] at hsrc
    clear hn
    go_enter Tryz.func151, Tryz.ntmps151
    go_wp2
    refine bodyPost_ret (v := .tuple #[heV none 0 0 none 0 0, .int .i64 2]) (by simp [results, Tryz.results151, go_sem]) rfl ?_
    refine acted_bad (TurnB.of_below ?_)
    repeat (first | with_reducible exact Below.refl _ _ | refine Below.drew ?_ | refine Below.alloc ?_ (by simp <;> omega) _ | refine Below.setCell ?_ (by simp <;> omega) _)
  · rw [if_neg hn]
    obtain ⟨c, hc, hcl⟩ := var_cell hq hgv hn
    have hne : ((c : Int) == -1) = false := by simp only [beq_eq_false_iff_ne, ne_eq]; omega
    rw [hc] at hsrc ⊢
    rw [nextC_at hcl]
    clear hn
    obtain ⟨q, rfl, hq1, hq2⟩ := h.z.block_ (by rw [intVals_length]; omega)
    have m0 : ¬ w.heap.size = q := by omega
    have m1 : ¬ w.heap.size + 1 = q := by omega
    have m2 : q < w.heap.size := by omega
    have m3 : q < w.heap.size + 1 := by omega
    have hnx := h.z.cellInt c hcl
    go_enter Tryz.func151, Tryz.ntmps151
    go_wp2
    go_region
    all_goals
      go_wp2
      refine bodyPost_ret (v := .tuple #[heV (some ⟨g, 0, none⟩) vs.length ca (some ⟨q, 0, none⟩) zs.length cb, .int .i64 0]) (by simp [results, Tryz.results151, go_sem]) rfl ?_
      refine acted_to (h.setV (k := pa) zs[c]) (turnB_at _ hg1 hg2 (.inl rfl)) List.length_set rfl ?_
      repeat (first | with_reducible exact Below.refl _ _ | refine Below.drew ?_ | refine Below.alloc ?_ (by simp <;> omega) _ | refine Below.setCell ?_ (by simp <;> omega) _)

set_option maxHeartbeats 800000 in
theorem implDoCut {lo hi pa : Nat} {a b : Option Addr} {ca cb : Nat} {vs zs : List Int} (y : Int) {w : World} (h : HeapIn lo hi w a ca b cb (intVals vs) (intVals zs)) (hp : pa < vs.length) (hgv : goodB zs vs = true) :
    Calls Tryz.prog 152 #[heV a vs.length ca b zs.length cb, .int .i64 pa, .int .i64 y] w (Acted lo hi (blocksH a b vs.length ca zs.length cb) (if vs.getD pa (-1) = -1 then badC 2 else (0, vs, zs.set (vs.getD pa (-1)).toNat (-1))) w) := by
  rw [getD_cell hp]
  obtain ⟨g, rfl, hg1, hg2⟩ := h.v.block_ (by rw [intVals_length]; omega)
  have hhi := h.v.1
  have n0 : ¬ w.heap.size = g := by omega
  have n1 : ¬ w.heap.size + 1 = g := by omega
  have n2 : g < w.heap.size := by omega
  have n3 : g < w.heap.size + 1 := by omega
  have hsrc := h.v.cellInt pa hp
  by_cases hn : vs[pa] = -1
  · rw [if_pos hn]
    rw [hn] at hsrc
    clear hn
    go_enter Tryz.func152, Tryz.ntmps152
    go_wp2
    refine bodyPost_ret (v := .tuple #[heV none 0 0 none 0 0, .int .i64 2]) (by simp [results, Tryz.results152, go_sem]) rfl ?_
    refine acted_bad (TurnB.of_below ?_)
    repeat (first | with_reducible exact Below.refl _ _ | refine Below.drew ?_ | refine Below.alloc ?_ (by simp <;> omega) _ | refine Below.setCell ?_ (by simp <;> omega) _)
  · rw [if_neg hn]
    obtain ⟨c, hc, hcl⟩ := var_cell hp hgv hn
    have hne : ((c : Int) == -1) = false := by simp only [beq_eq_false_iff_ne, ne_eq]; omega
    rw [hc] at hsrc ⊢
    rw [Int.toNat_natCast]
    clear hn
    obtain ⟨q, rfl, hq1, hq2⟩ := h.z.block_ (by rw [intVals_length]; omega)
    have m0 : ¬ w.heap.size = q := by omega
    have m1 : ¬ w.heap.size + 1 = q := by omega
    have m2 : q < w.heap.size := by omega
    have m3 : q < w.heap.size + 1 := by omega
    have hold := h.z.cellInt c hcl
    have hfr := h.z.frozen_ c
    go_enter Tryz.func152, Tryz.ntmps152
    go_wp2
    go_region
    all_goals
      go_wp2
      refine bodyPost_ret (v := .tuple #[heV (some ⟨g, 0, none⟩) vs.length ca (some ⟨q, 0, none⟩) zs.length cb, .int .i64 0]) (by simp [results, Tryz.results152, go_sem]) rfl ?_
      refine acted_to (h.setZ (k := c) (-1)) (turnB_at _ hq1 hq2 (.inr rfl)) rfl List.length_set ?_
      repeat (first | with_reducible exact Below.refl _ _ | refine Below.drew ?_ | refine Below.alloc ?_ (by simp <;> omega) _ | refine Below.setCell ?_ (by simp <;> omega) _)

end Go.Proofs.YtpmmjaceehlpiaaGreatDoor
/-
  The program's copy of a heap.
-/
namespace Go.Proofs.YtpmmjaceehlpiaaGreatDoor
open Go Go.RowKit

theorem heapIn_pair {lo b3 b4 : Nat} {W : World} {oa ob : Option Addr} {oca ocb : Nat} {vs zs : List Int} (h3 : W.ownsRow b3 3 1 (.slice oa vs.length oca) vs.length (intVals vs)) (h4 : W.ownsRow b4 3 1 (.slice ob zs.length ocb) zs.length (intVals zs)) (l3 : lo ≤ b3) (l4 : lo ≤ b4)
    (ha : ∀ j, (Value.slice oa vs.length oca).ownBlock = some j → (Value.slice ob zs.length ocb).ownBlock ≠ some j) : HeapIn lo W.heap.size W oa oca ob ocb (intVals vs) (intVals zs) :=
  ⟨by rw [intVals_length]; exact (OwnIn.of h3).mono l3 (Nat.le_refl _) (Nat.le_refl _), by rw [intVals_length]; exact (OwnIn.of h4).mono l4 (Nat.le_refl _) (Nat.le_refl _), by rw [intVals_length, intVals_length]; exact ha⟩
set_option maxHeartbeats 1600000 in
set_option maxRecDepth 100000 in
theorem implCopy (a b : Option Addr) (ca cb : Nat) (vs zs : List Int) (w : World) (hl : vs.length ≤ 1048576) (he : zs.length ≤ 1048576) (hr : HeapAt w a b vs zs) :
    Calls Tryz.prog 52 #[heV a vs.length ca b zs.length cb] w (MadeHeap vs zs w) := by
  go_enter Tryz.func52, Tryz.ntmps52
  go_wp2_with fail
  obtain ⟨W0, hW0, hb0, hA0, hA1⟩ := two_boxL w [.slice a vs.length ca, .slice b zs.length cb] [.slice none 0 0, .slice none 0 0] 30 30
  simp only [List.toArray] at hW0
  rw [hW0]
  clear hW0
  have hz0 := hA1.lt
  have hA : ∀ W, Below W0.heap.size W0 W → (W.cell? ⟨w.heap.size, 0, none⟩ = some (.slice a vs.length ca) ∧ W.cell? ⟨w.heap.size, 1, none⟩ = some (.slice b zs.length cb)) ∧ HeapAt W a b vs zs ∧ BoxL W (w.heap.size + 1) [.slice none 0 0, .slice none 0 0] := fun W hb =>
    have h0 := hA0.below hb
    ⟨⟨h0.c 0 _ rfl, h0.c 1 _ rfl⟩, hr.below (hb0.trans (hb.mono hb0.size)) (Nat.le_refl _), hA1.below hb⟩
  have hS : ∀ W, Below (w.heap.size + 1) W0 W → W.cell? ⟨w.heap.size, 0, none⟩ = some (.slice a vs.length ca) ∧ W.cell? ⟨w.heap.size, 1, none⟩ = some (.slice b zs.length cb) := fun W h =>
    ⟨(h.cell (p := ⟨w.heap.size, 0, none⟩) (by show w.heap.size < _; omega)).trans (hA0.c 0 _ rfl), (h.cell (p := ⟨w.heap.size, 1, none⟩) (by show w.heap.size < _; omega)).trans (hA0.c 1 _ rfl)⟩
  have HA := Lib.hid hA
  have HS := Lib.hid hS
  clear hA hS hA0 hA1 hr
  go_region_held3 (fun W => W.cell? ⟨w.heap.size, 0, none⟩ = some (.slice a vs.length ca) ∧ W.cell? ⟨w.heap.size, 1, none⟩ = some (.slice b zs.length cb))
    (exact HS.out _ (by repeat (first | with_reducible exact Below.refl _ _ | with_reducible exact H4.mono (Nat.le_of_lt hz0) | with_reducible exact H3.mono (Nat.le_of_lt hz0) | with_reducible refine Below.drew ?_ | refine Below.setCell ?_ (Nat.le_refl (w.heap.size + 1)) _)))
    (first
      | (go_at_call 97; (with_reducible refine (libClone a ca vs _ hl (HA.out _ (Below.drew (Below.refl _ _))).2.1.v).mono ?_); rintro e w3 ⟨oa, oca, rfl, ho3, hb3⟩; have H3 : Below W0.heap.size W0 w3 := Below.trans (Below.drew (Below.refl _ _)) (hb3.mono (Nat.le_refl _)))
      | (go_at_call 97; (with_reducible refine (libClone b cb zs _ he (HA.out _ H3).2.1.z).mono ?_); rintro e w4 ⟨ob, ocb, rfl, ho4, hb4⟩; have H4 : Below W0.heap.size W0 w4 := H3.trans (hb4.mono H3.size); have E4 := (HA.out _ H4).2.2; have e40 := E4.c 0 _ rfl; have e41 := E4.c 1 _ rfl; have f4 := E4.f; have l4 := E4.lt; have hin := heapIn_pair (lo := W0.heap.size) (own_keeps ho3 hb4) ho4 (Nat.le_refl _) H3.size (fun j h1 h2 => by have h1 := (ho3.lt j h1).2; have h2 := (ho4.lt j h2).1; omega)))
  have tq : Turn w.heap.size (w.heap.size + 2) w4 ((w4.setCell ⟨w.heap.size + 1, 0, none⟩ (.slice oa vs.length oca)).setCell ⟨w.heap.size + 1, 1, none⟩ (.slice ob zs.length ocb)) := ((turn_set _ _ _ _).trans (turn_set _ _ _ _)).mono (by omega) (by omega)
  have hbE := Turn.below (B := w.heap.size) (hb0.trans (H4.mono (by omega))) tq (Nat.le_refl _) (Nat.le_trans (by omega) H4.size)
  have hend := Lib.hid (show _ ∧ _ from ⟨(hin.turn tq (.inr (by omega))).mono (lo' := w.heap.size) (by omega) tq.size (Nat.le_refl _), hbE⟩)
  clear hin hbE tq ho3 ho4
  go_wp2
  exact bodyPost_ret (v := heV oa vs.length oca ob zs.length ocb) (by simp [results, Tryz.results52, go_sem, e40, e41]) rfl ⟨oa, oca, ob, ocb, rfl, hend.out⟩
end Go.Proofs.YtpmmjaceehlpiaaGreatDoor
/-
  What Exec comes to, case by case; how it ends.
-/
namespace Go.Proofs.YtpmmjaceehlpiaaGreatDoor
open Go Go.RowKit Go.ChangeShapes Go.WideShapes Go.ChangeAt

theorem heapIn_two {lo b3 b4 : Nat} {w3 X w4 : World} {oa ob : Option Addr} {oca ocb : Nat} {vs zs : List Int} (hlo : lo ≤ b3) (h3 : w3.ownsRow b3 3 1 (.slice oa vs.length oca) vs.length (intVals vs)) (hX : Below w3.heap.size w3 X) (hb : Below X.heap.size X w4)
    (h4 : w4.ownsRow b4 3 1 (.slice ob zs.length ocb) zs.length (intVals zs)) (hb4 : w3.heap.size ≤ b4) (hl4 : lo ≤ b4 := by omega) : HeapIn lo w4.heap.size w4 oa oca ob ocb (intVals vs) (intVals zs) := by
  have hB := hX.trans (hb.mono hX.size)
  have k3 := own_keeps h3 hB
  refine ⟨?_, ?_, ?_⟩
  · rw [intVals_length]
    exact (OwnIn.of k3).mono hlo (Nat.le_refl _) (Nat.le_refl _)
  · rw [intVals_length]
    exact (OwnIn.of h4).mono hl4 (Nat.le_refl _) (Nat.le_refl _)
  · rw [intVals_length, intVals_length]
    intro j h1 h2
    have := (h3.lt j h1).2
    have := (h4.lt j h2).1
    omega
theorem exec_code {ss : List ByteArray} {k c : Int} {a b : ByteArray} {vs zs us ys : List Int} (h1 : stmtB ss k a b = true) (h2 : heapB (ss.length : Int) vs zs = true) (h : doS k (place ss a).toNat (place ss b).toNat vs zs = (c, us, ys)) (hc : ¬ c = 0) : execS ss k a b vs zs = badC c := by
  unfold execS
  rw [if_pos ⟨h1, h2⟩, h, if_neg hc]
theorem exec_leak {ss : List ByteArray} {k : Int} {a b : ByteArray} {vs zs us ys : List Int} (h1 : stmtB ss k a b = true) (h2 : heapB (ss.length : Int) vs zs = true) (h : doS k (place ss a).toNat (place ss b).toNat vs zs = (0, us, ys)) (hl : leakB us ys = true) : execS ss k a b vs zs = badC 4 := by
  unfold execS
  rw [if_pos ⟨h1, h2⟩, h, if_pos rfl, if_pos hl]
theorem exec_ok {ss : List ByteArray} {k : Int} {a b : ByteArray} {vs zs us ys : List Int} (h1 : stmtB ss k a b = true) (h2 : heapB (ss.length : Int) vs zs = true) (h : doS k (place ss a).toNat (place ss b).toNat vs zs = (0, us, ys)) (hl : leakB us ys = false) : execS ss k a b vs zs = (0, canonVs us ys, canonNs us ys) := by
  unfold execS
  rw [if_pos ⟨h1, h2⟩, h, if_pos rfl, if_neg (by simp [hl])]
/-- The answer is written into a box that lies ahead of the answer's rows. -/
theorem heap_res {lo hi Q : Nat} {w W : World} {a b : Option Addr} {ca cb : Nat} {vs zs : List Int} {u v : Value} (h : HeapIn lo hi W a ca b cb (intVals vs) (intVals zs)) (hB : Below w.heap.size w W) (hQ : w.heap.size ≤ Q) (hlo : Q < lo) :
    HeapIn w.heap.size ((W.setCell ⟨Q, 0, none⟩ u).setCell ⟨Q, 1, none⟩ v).heap.size ((W.setCell ⟨Q, 0, none⟩ u).setCell ⟨Q, 1, none⟩ v) a ca b cb (intVals vs) (intVals zs) ∧ Below w.heap.size w ((W.setCell ⟨Q, 0, none⟩ u).setCell ⟨Q, 1, none⟩ v) := by
  have hbl := h.blocks
  have hs : ((W.setCell ⟨Q, 0, none⟩ u).setCell ⟨Q, 1, none⟩ v).heap.size = W.heap.size := by simp
  refine ⟨?_, (hB.setCell hQ _).setCell hQ _⟩
  rw [hs]
  exact ((h.setNot (Q := Q) fun k hk => by have := hbl k hk; omega).setNot (Q := Q) fun k hk => by have := hbl k hk; omega).mono (by omega) h.v.1 (by rw [hs]; exact Nat.le_refl _)
theorem Box2.keepL {W : World} {Q : Nat} {x y : Value} (h0 : W.cell? ⟨Q, 0, none⟩ = some x) (h1 : W.cell? ⟨Q, 1, none⟩ = some y) : ∀ i u, [x, y][i]? = some u → W.cell? ⟨Q, i, none⟩ = some u
  | 0, u, hu => by obtain rfl := Option.some.inj hu; exact h0
  | 1, u, hu => by obtain rfl := Option.some.inj hu; exact h1
  | _ + 2, u, hu => by simp at hu
theorem box_of {W : World} {Q : Nat} {x y : Value} (hf : ∀ o, W.frozen? ⟨Q, o, none⟩ = false) (hl : Q < W.heap.size) (h0 : W.cell? ⟨Q, 0, none⟩ = some x) (h1 : W.cell? ⟨Q, 1, none⟩ = some y) : BoxL W Q [x, y] :=
  ⟨Box2.keepL h0 h1, hf, hl⟩
theorem turn_cell_ {lo hi : Nat} {p : Addr} {x : Value} {q : Prop} {W W' : World} (t : Turn lo hi W W') (hp : p.block < W.heap.size) (hd : p.block < lo ∨ hi ≤ p.block) (hx : W.cell? p = some x) (k : W'.cell? p = some x → q) : q := k ((World.cell?_of_block (t.block _ hp hd)).trans hx)
theorem turn_frozen_ {lo hi g : Nat} {q : Prop} {W W' : World} (t : Turn lo hi W W') (hp : g < W.heap.size) (hd : g < lo ∨ hi ≤ g) (hx : ∀ o, W.frozen? ⟨g, o, none⟩ = false) (k : (∀ o, W'.frozen? ⟨g, o, none⟩ = false) → q) : q := k fun o => (World.frozen?_of_block (t.block _ hp hd)).trans (hx o)
theorem keep_cell {B : Nat} {p : Addr} {x : Value} {q : Prop} {W W' : World} (hb : Below B W W') (hp : p.block < B) (hx : W.cell? p = some x) (k : W'.cell? p = some x → q) : q := k ((hb.cell hp).trans hx)
theorem keep_frozen {B g : Nat} {q : Prop} {W W' : World} (hb : Below B W W') (hp : g < B) (hx : ∀ o, W.frozen? ⟨g, o, none⟩ = false) (k : (∀ o, W'.frozen? ⟨g, o, none⟩ = false) → q) : q := k fun o => (hb.frozen (p := ⟨g, o, none⟩) hp).trans (hx o)
/-- An answer of Exec: a heap that the call made, a code. -/
def ExecEnd (r : Act3) (w : World) (e : Ending) (w' : World) : Prop :=
  ∃ a ca b cb, e = .returned (.tuple #[heV a r.2.1.length ca b r.2.2.length cb, .int .i64 r.1]) ∧ HeapIn w.heap.size w'.heap.size w' a ca b cb (intVals r.2.1) (intVals r.2.2) ∧ Below w.heap.size w w'
theorem exec_bad {k : Int} {w w' : World} (h : Below w.heap.size w w') : ExecEnd (badC k) w (.returned (.tuple #[heV none 0 0 none 0 0, .int .i64 k])) w' :=
  ⟨none, 0, none, 0, rfl, heapIn_nil (Nat.le_refl _), h⟩
theorem place_in {ss : List ByteArray} {s : ByteArray} (h : 0 ≤ place ss s) : place ss s < (ss.length : Int) := by
  unfold place at *
  have key : ∀ (l : List ByteArray) (k : Nat), 0 ≤ placeFrom s k l → placeFrom s k l < ((k + l.length : Nat) : Int) := by
    intro l
    induction l with
    | nil => intro k h; simp [placeFrom] at h
    | cons x l ih =>
      intro k h
      simp only [placeFrom, List.length_cons] at *
      split at h
      · rename_i hx
        rw [if_pos hx]
        omega
      · rename_i hx
        rw [if_neg hx]
        have := ih (k + 1) h
        omega
  have := key ss 0 h
  simpa using this
/-- What a valid statement says of its names. -/
theorem stmt_names {ss : List ByteArray} {k : Int} {a b : ByteArray} (h : stmtB ss k a b = true) : (1 ≤ k ∧ k ≤ 12) ∧ (1 ≤ namesN k → 0 ≤ place ss a) ∧ (2 ≤ namesN k → 0 ≤ place ss b) := by
  simp only [stmtB, Bool.and_eq_true, decide_eq_true_eq] at h
  obtain ⟨⟨⟨_, hn⟩, ha⟩, hb⟩ := h
  refine ⟨Classical.byContradiction fun hk => by rw [namesN_none hk] at hn; omega, fun h1 => ?_, fun h2 => ?_⟩
  · rw [decide_eq_true h1] at ha
    simpa [operandB] using ha
  · rw [decide_eq_true h2] at hb
    simpa [operandB] using hb

end Go.Proofs.YtpmmjaceehlpiaaGreatDoor
/-
  The program's action that frees a cell.
-/
namespace Go.Proofs.YtpmmjaceehlpiaaGreatDoor
open Go Go.RowKit Go.ChangeShapes Go.WideShapes Go.ChangeAt

/-- A list whose first j elements are done. -/
def mixL (f : Int → Int) (l : List Int) (j : Nat) : List Int := (l.take j).map f ++ l.drop j
theorem mixL_length (f : Int → Int) (l : List Int) (j : Nat) : (mixL f l j).length = l.length := by simp [mixL]; omega
theorem mixL_zero (f : Int → Int) (l : List Int) : mixL f l 0 = l := by simp [mixL]
theorem mixL_all (f : Int → Int) (l : List Int) : mixL f l l.length = l.map f := by simp [mixL]
theorem mixL_at (f : Int → Int) (l : List Int) {j : Nat} (h : j < l.length) (h' : j < (mixL f l j).length) : (mixL f l j)[j] = l[j] := by
  simp only [mixL]
  rw [List.getElem_append_right (by simp; omega)]
  simp only [List.length_map, List.length_take, List.getElem_drop]
  congr 1
  omega
theorem mixL_next (f : Int → Int) (l : List Int) {j : Nat} (h : j < l.length) : (mixL f l j).set j (f l[j]) = mixL f l (j + 1) := by
  have e : (l.drop j) = l[j] :: l.drop (j + 1) := List.drop_eq_getElem_cons h
  simp only [mixL]
  rw [e, take_next l j h, List.map_append, List.append_assoc, List.set_append_right _ _ (by simp; omega)]
  simp only [List.length_map, List.length_take]
  rw [show j - min j l.length = 0 by omega]
  rfl
theorem mixL_same (f : Int → Int) (l : List Int) {j : Nat} (h : j < l.length) (hf : f l[j] = l[j]) : mixL f l (j + 1) = mixL f l j := by
  rw [← mixL_next f l h, hf]
  have := mixL_at f l h (by rw [mixL_length]; exact h)
  conv => lhs; rw [← this]
  exact List.set_getElem_self _

/-- The cells' row lost a cell. -/
theorem HeapIn.lessZ {lo hi q k : Nat} {W W' : World} {a : Option Addr} {ca cb : Nat} {vs zs : List Int} (h : HeapIn lo hi W a ca (some ⟨q, 0, none⟩) cb (intVals vs) (intVals zs)) (hk : k < zs.length)
    (ho : OwnIn lo hi W' 3 1 (.slice (some ⟨q, 0, none⟩) (zs.length - 1) cb) (zs.length - 1) (intVals (zs.eraseIdx k))) (t : Turn q (q + 1) W W') : HeapIn lo hi W' a ca (some ⟨q, 0, none⟩) cb (intVals vs) (intVals (zs.eraseIdx k)) := by
  have hl : (zs.eraseIdx k).length = zs.length - 1 := by rw [List.length_eraseIdx, if_pos hk]
  have hv := h.v
  have hap := h.apart
  rw [intVals_length, intVals_length] at hap
  rw [intVals_length] at hv
  have hg : W.grownBy W' (some q) := ⟨t.os, t.tape, t.output, t.size, fun j hj hne => t.block j hj (by have : j ≠ q := fun e => hne (by rw [e]); omega)⟩
  refine ⟨?_, ?_, ?_⟩
  · rw [intVals_length]
    exact ⟨Nat.le_trans hv.1 t.size, own_other hv.2.1 hg (fun j hj e => hap j hj (by rw [e]; rfl)), hv.2.2⟩
  · rw [intVals_length, hl]
    exact ho
  · rw [intVals_length, intVals_length, hl]
    exact hap

/-- What the walk of withoutCell keeps: the argument's box, the answer's box, the list of both rows, the heap. -/
structure Wo (w : World) (S : Nat → Prop) (lo hi L q ca cb n m : Nat) (a : Option Addr) (us ys : List Int) (W : World) : Prop where
  arg : BoxL W w.heap.size [.slice a n ca, .slice (some ⟨q, 0, none⟩) m cb]
  res : BoxL W (w.heap.size + 1) [.slice none 0 0, .slice none 0 0]
  two : BoxL W L [.slice a n ca, .slice (some ⟨q, 0, none⟩) m cb]
  heap : HeapIn lo hi W a ca (some ⟨q, 0, none⟩) cb (intVals us) (intVals ys)
  turn : TurnB lo hi S w W
  hn : us.length = n
  hm : ys.length = m
  hL : w.heap.size + 1 < L
  hhi : hi ≤ w.heap.size
theorem Wo.setV {w W : World} {S : Nat → Prop} {lo hi L q ca cb n m g k : Nat} {us ys : List Int} (x : Int) (h : Wo w S lo hi L q ca cb n m (some ⟨g, 0, none⟩) us ys W) (hg1 : lo ≤ g) (hg2 : g < hi) (hS : S g) : Wo w S lo hi L q ca cb n m (some ⟨g, 0, none⟩) (us.set k x) ys (W.setCell ⟨g, k, none⟩ (.int .i64 x)) := by
  have ts := turn_set W g k (.int .i64 x)
  have h1 := h.hL
  have h2 := h.hhi
  exact ⟨h.arg.turn ts (.inr (by omega)), h.res.turn ts (.inr (by omega)), h.two.turn ts (.inr (by omega)), h.heap.setV x, h.turn.trans (turnB_at _ hg1 hg2 hS), by rw [List.length_set]; exact h.hn, h.hm, h1, h2⟩
theorem Wo.setZ {w W : World} {S : Nat → Prop} {lo hi L q ca cb n m k : Nat} {a : Option Addr} {us ys : List Int} (x : Int) (h : Wo w S lo hi L q ca cb n m a us ys W) (hg1 : lo ≤ q) (hg2 : q < hi) (hS : S q) : Wo w S lo hi L q ca cb n m a us (ys.set k x) (W.setCell ⟨q, k, none⟩ (.int .i64 x)) := by
  have ts := turn_set W q k (.int .i64 x)
  have h1 := h.hL
  have h2 := h.hhi
  exact ⟨h.arg.turn ts (.inr (by omega)), h.res.turn ts (.inr (by omega)), h.two.turn ts (.inr (by omega)), h.heap.setZ x, h.turn.trans (turnB_at _ hg1 hg2 hS), h.hn, by rw [List.length_set]; exact h.hm, h1, h2⟩

def Without (lo hi : Nat) (S : Nat → Prop) (vs zs : List Int) (w : World) (e : Ending) (w' : World) : Prop :=
  ∃ a ca b cb, e = .returned (heV a vs.length ca b zs.length cb) ∧ HeapIn lo hi w' a ca b cb (intVals vs) (intVals zs) ∧ TurnB lo hi S w w' ∧ (∀ k, blocksH a b vs.length ca zs.length cb k → S k)
set_option maxRecDepth 100000 in
set_option maxHeartbeats 3200000 in
theorem implWithout {lo hi q c : Nat} {S : Nat → Prop} {a : Option Addr} {ca cb : Nat} {vs zs : List Int} {w : World} (h : HeapIn lo hi w a ca (some ⟨q, 0, none⟩) cb (intVals vs) (intVals zs)) (hq1 : lo ≤ q) (hq2 : q < hi) (hc : c < zs.length) (hv4 : vs.length ≤ 4) (hz6 : zs.length ≤ 6)
    (hbv : ∀ x ∈ vs, -1 ≤ x ∧ x ≤ 6) (hbz : ∀ x ∈ zs, -1 ≤ x ∧ x ≤ 6) (hSq : S q) (hSa : ∀ g, a = some ⟨g, 0, none⟩ → S g) (hSa' : ∀ p : Addr, a = some p → S p.block) :
    Calls Tryz.prog 164 #[heV a vs.length ca (some ⟨q, 0, none⟩) zs.length cb, .int .i64 c] w (Without lo hi S (vs.map (lowC c)) ((zs.eraseIdx c).map (lowC c)) w) := by
  have hhi := h.v.1
  have hl : (zs.eraseIdx c).length = zs.length - 1 := by rw [List.length_eraseIdx, if_pos hc]
  have hbe : ∀ x ∈ zs.eraseIdx c, -1 ≤ x ∧ x ≤ 6 := fun x hx => hbz x (List.mem_of_mem_eraseIdx hx)
  obtain ⟨W0, hW0, hb0, bn0, bp0⟩ := two_boxL w [.slice a vs.length ca, .slice (some ⟨q, 0, none⟩) zs.length cb] [.slice none 0 0, .slice none 0 0] 30 30
  replace hW0 : ((w.alloc (.cells #[.slice a vs.length ca, .slice (some ⟨q, 0, none⟩) zs.length cb] 30)).alloc (.cells #[.slice none 0 0, .slice none 0 0] 30)) = W0 := hW0
  have c0 := bn0.c 0 _ rfl
  have c1 := bn0.c 1 _ rfl
  have h0 := h.turn (lo' := hi) (hi' := hi) (Turn.of_below hb0) (.inl (Nat.le_refl _))
  have hz0 := h0.z
  rw [intVals_length] at hz0
  go_enter Tryz.func164, Tryz.ntmps164
  go_wp2_with fail
  clear hW0
  rw [show (c : Int) + 1 = ((c + 1 : Nat) : Int) by omega]
  refine (libDelete hc hz0).mono ?_
  rintro e w1 ⟨rfl, ho1, t1⟩
  have h1 := h0.lessZ hc ho1 t1
  have bn1 := bn0.turn t1 (.inr (by omega))
  have bp1 := bp0.turn t1 (.inr (by omega))
  have T1 := (TurnB.of_below hb0 (lo := lo) (hi := hi) (S := S)).trans (TurnB.of_one t1 hq1 (by omega) hSq)
  have e0 := bn1.c 0 _ rfl
  have e1 := bn1.c 1 _ rfl
  have ef := bn1.f
  have hs1 := bp1.lt
  clear c0 c1 h0 hz0 ho1 t1 bn0 bp0 hb0
  have HW1 : Wo w S lo hi w1.heap.size q ca cb vs.length (zs.length - 1) a vs (zs.eraseIdx c) ((w1.setCell ⟨w.heap.size, 1, none⟩ (.slice (some ⟨q, 0, none⟩) (zs.length - 1) cb)).alloc (.cells #[.slice a vs.length ca, .slice (some ⟨q, 0, none⟩) (zs.length - 1) cb] 28)) := by
    have hbl := h1.blocks
    have ts := turn_set w1 w.heap.size 1 (.slice (some ⟨q, 0, none⟩) (zs.length - 1) cb)
    have ha := bn1.set 1 (.slice (some ⟨q, 0, none⟩) (zs.length - 1) cb)
    have hr := bp1.turn ts (.inr (by omega))
    have hh : HeapIn lo hi (w1.setCell ⟨w.heap.size, 1, none⟩ (.slice (some ⟨q, 0, none⟩) (zs.length - 1) cb)) a ca (some ⟨q, 0, none⟩) cb (intVals vs) (intVals (zs.eraseIdx c)) := h1.setNot fun k hk => by have := hbl k hk; omega
    have hb := (Below.refl (w1.setCell ⟨w.heap.size, 1, none⟩ (.slice (some ⟨q, 0, none⟩) (zs.length - 1) cb)).heap.size (w1.setCell ⟨w.heap.size, 1, none⟩ (.slice (some ⟨q, 0, none⟩) (zs.length - 1) cb))).alloc (Nat.le_refl _) (.cells #[.slice a vs.length ca, .slice (some ⟨q, 0, none⟩) (zs.length - 1) cb] 28)
    have hnew := BoxL.new (w1.setCell ⟨w.heap.size, 1, none⟩ (.slice (some ⟨q, 0, none⟩) (zs.length - 1) cb)) [.slice a vs.length ca, .slice (some ⟨q, 0, none⟩) (zs.length - 1) cb] 28
    rw [show (w1.setCell ⟨w.heap.size, 1, none⟩ (.slice (some ⟨q, 0, none⟩) (zs.length - 1) cb)).heap.size = w1.heap.size by simp] at hnew
    exact ⟨ha.below hb, hr.below hb, hnew, hh.below hb, (T1.setNew (Nat.le_refl _)).trans (TurnB.of_below hb), rfl, hl, hs1, hhi⟩
  have HL := Lib.hid hl
  go_wp2
  clear e0 e1 ef bn1 bp1 h1 T1
  generalize ((w1.setCell ⟨w.heap.size, 1, none⟩ (.slice (some ⟨q, 0, none⟩) (zs.length - 1) cb)).alloc (.cells #[.slice a vs.length ca, .slice (some ⟨q, 0, none⟩) (zs.length - 1) cb] 28)) = W4 at *
  generalize w1.heap.size = L at *
  have hm5 : zs.length - 1 ≤ 5 := by omega
  generalize zs.length - 1 = m at *
  go_loopw [22] (fun i wr => ∃ (t : Nat) (us ys : List Int), t ≤ 2 ∧ i = .int .i64 t ∧ ((t = 0 ∧ us = vs ∧ ys = zs.eraseIdx c) ∨ (t = 1 ∧ us = vs.map (lowC c) ∧ ys = zs.eraseIdx c) ∨ (t = 2 ∧ us = vs.map (lowC c) ∧ ys = (zs.eraseIdx c).map (lowC c))) ∧ Wo w S lo hi L q ca cb vs.length m a us ys wr)
    (fun i _ => 2 - (intOf i).toNat)
  case atStart => exact ⟨0, _, _, by omega, rfl, .inl ⟨rfl, rfl, rfl⟩, HW1⟩
  case round =>
    clear HW1
    obtain ⟨t, us, ys, ht, rfl, hcase, hW⟩ := hrel
    have t0 := hW.two.c 0 _ rfl
    have t1 := hW.two.c 1 _ rfl
    rcases hcase with ⟨rfl, hu, hy⟩ | ⟨rfl, hu, hy⟩ | ⟨rfl, hu, hy⟩ <;> rw [hu, hy] at hW <;> clear hu hy us ys
    case' inl =>
      have VB := Lib.hid hbv
      go_wp2
      go_loopw [28] (fun j wr => ∃ (k : Nat), k ≤ vs.length ∧ j = .int .i64 k ∧ Wo w S lo hi L q ca cb vs.length m a (mixL (lowC c) vs k) (zs.eraseIdx c) wr) (fun j _ => vs.length - (intOf j).toNat)
      case atStart => exact ⟨0, Nat.zero_le _, rfl, by rw [mixL_zero]; exact hW⟩
      case round =>
        clear hW
        obtain ⟨k, hk, rfl, hW⟩ := hrel
        by_cases hlt : k < vs.length
        · obtain ⟨g, rfl, hg1, hg2⟩ := hW.heap.v.block_ (by rw [intVals_length, mixL_length]; omega)
          have hcell := hW.heap.v.cellInt k (by rw [mixL_length]; exact hlt)
          rw [mixL_at _ _ hlt] at hcell
          have hbx := VB.out _ (List.getElem_mem hlt)
          have hnx := mixL_next (lowC c) vs hlt
          have hsm := mixL_same (lowC c) vs hlt
          have hfr := hW.heap.v.frozen_ k
          generalize hx : vs[k]'hlt = x at *
          clear hx
          by_cases hgt : (c : Int) < x
          · have hlow : lowC c x = x - 1 := if_pos hgt
            rw [hlow] at hnx
            have hwr : IntKind.i64.wrap (x - 1) = x - 1 := by rw [IntKind.wrap_i64]; omega
            have hW' := hW.setV (k := k) (x - 1) hg1 hg2 (hSa g rfl)
            rw [hnx] at hW'
            have HW := Lib.hid hW'
            clear hW hW' hnx hsm hlow
            go_wp2
            go_roundw
            case rel => exact ⟨k + 1, by omega, by go_num, HW.out⟩
            case measure => simp [intOf]; omega
          · have hlow : lowC c x = x := if_neg hgt
            have hW' := hW
            rw [← hsm hlow] at hW'
            have HW := Lib.hid hW'
            clear hW hW' hnx hsm hlow
            go_wp2
            go_roundw
            case rel => exact ⟨k + 1, by omega, by go_num, HW.out⟩
            case measure => simp [intOf]; omega
        · have hke : k = vs.length := by omega
          have hall : mixL (lowC c) vs k = vs.map (lowC c) := by rw [hke, mixL_all]
          rw [hall] at hW
          clear hall
          have HW := Lib.hid hW
          clear hW
          go_wp2
          go_roundw
          case rel => exact ⟨1, _, _, by omega, by go_num, .inr (.inl ⟨rfl, rfl, rfl⟩), HW.out⟩
          case measure => simp [intOf]
    case' inr.inl =>
      have ZB := Lib.hid hbe
      go_wp2
      go_loopw [28] (fun j wr => ∃ (k : Nat), k ≤ m ∧ j = .int .i64 k ∧ Wo w S lo hi L q ca cb vs.length m a (vs.map (lowC c)) (mixL (lowC c) (zs.eraseIdx c) k) wr) (fun j _ => m - (intOf j).toNat)
      case atStart => exact ⟨0, Nat.zero_le _, rfl, by rw [mixL_zero]; exact hW⟩
      case round =>
        clear hW
        obtain ⟨k, hk, rfl, hW⟩ := hrel
        by_cases hlt : k < m
        · have hlt' : k < (zs.eraseIdx c).length := by rw [HL.out]; exact hlt
          have hcell := hW.heap.z.cellInt k (by rw [mixL_length]; exact hlt')
          rw [mixL_at _ _ hlt'] at hcell
          have hbx := ZB.out _ (List.getElem_mem hlt')
          have hnx := mixL_next (lowC c) (zs.eraseIdx c) hlt'
          have hsm := mixL_same (lowC c) (zs.eraseIdx c) hlt'
          have hfr := hW.heap.z.frozen_ k
          generalize hx : (zs.eraseIdx c)[k]'hlt' = x at *
          clear hx
          by_cases hgt : (c : Int) < x
          · have hlow : lowC c x = x - 1 := if_pos hgt
            rw [hlow] at hnx
            have hwr : IntKind.i64.wrap (x - 1) = x - 1 := by rw [IntKind.wrap_i64]; omega
            have hW' := hW.setZ (k := k) (x - 1) hq1 hq2 hSq
            rw [hnx] at hW'
            have HW := Lib.hid hW'
            clear hW hW' hnx hsm hlow
            go_wp2
            go_roundw
            case rel => exact ⟨k + 1, by omega, by go_num, HW.out⟩
            case measure => simp [intOf]; omega
          · have hlow : lowC c x = x := if_neg hgt
            have hW' := hW
            rw [← hsm hlow] at hW'
            have HW := Lib.hid hW'
            clear hW hW' hnx hsm hlow
            go_wp2
            go_roundw
            case rel => exact ⟨k + 1, by omega, by go_num, HW.out⟩
            case measure => simp [intOf]; omega
        · have hke : k = m := by omega
          have hall : mixL (lowC c) (zs.eraseIdx c) k = (zs.eraseIdx c).map (lowC c) := by rw [hke, ← HL.out, mixL_all]
          rw [hall] at hW
          clear hall
          have HW := Lib.hid hW
          clear hW
          go_wp2
          go_roundw
          case rel => exact ⟨2, _, _, by omega, by go_num, .inr (.inr ⟨rfl, rfl, rfl⟩), HW.out⟩
          case measure => simp [intOf]
    case' inr.inr =>
      have r0 := hW.res.c 0 _ rfl
      have r1 := hW.res.c 1 _ rfl
      have rf := hW.res.f
      have a0 := hW.arg.c 0 _ rfl
      have a1 := hW.arg.c 1 _ rfl
      have hn := hW.hn
      have hm := hW.hm
      have hX := heap_box (Q := w.heap.size + 1) (u := .slice a vs.length ca) (v := .slice (some ⟨q, 0, none⟩) m cb) hW.heap hW.turn hhi (by omega)
      have hbl := hW.heap.blocks
      have hX2 : HeapIn lo hi ((wr.setCell ⟨w.heap.size + 1, 0, none⟩ (.slice a vs.length ca)).setCell ⟨w.heap.size + 1, 1, none⟩ (.slice (some ⟨q, 0, none⟩) m cb)) a ca (some ⟨q, 0, none⟩) cb (intVals (vs.map (lowC c))) (intVals ((zs.eraseIdx c).map (lowC c))) :=
        (hW.heap.setNot (Q := w.heap.size + 1) fun k hk => by have := hbl k hk; omega).setNot (Q := w.heap.size + 1) fun k hk => by have := hbl k hk; omega
      have HX := Lib.hid (And.intro hX2 hX.2)
      clear hX hX2 hW hbl
      go_wp2
      refine bodyPost_ret (v := heV a vs.length ca (some ⟨q, 0, none⟩) m cb) (by simp [results, Tryz.results164, go_sem, r0, r1]) rfl ?_
      exact ⟨a, ca, some ⟨q, 0, none⟩, cb, by rw [hn, hm], HX.out.1, HX.out.2, fun k hk => hk.elim (fun e => by cases a with | none => cases e | some p0 => exact Option.some.inj e ▸ hSa' p0 rfl) (fun e => Option.some.inj e ▸ hSq)⟩

theorem free_null {pa : Nat} {vs zs : List Int} (hp : pa < vs.length) (h : vs[pa] = -1) : freeS pa vs zs = badC 2 := by
  unfold freeS
  rw [getD_cell hp, if_pos h]
theorem free_used {pa c : Nat} {vs zs : List Int} (hp : pa < vs.length) (h : vs[pa] = (c : Int)) (hm : (c : Int) ∈ vs.set pa (-1) ∨ (c : Int) ∈ zs) : freeS pa vs zs = badC 5 := by
  unfold freeS
  rw [getD_cell hp, h, if_neg (by omega), if_pos hm]
theorem free_ok {pa c : Nat} {vs zs : List Int} (hp : pa < vs.length) (h : vs[pa] = (c : Int)) (hm : ¬ ((c : Int) ∈ vs.set pa (-1) ∨ (c : Int) ∈ zs)) : freeS pa vs zs = (0, (vs.set pa (-1)).map (lowC c), (zs.eraseIdx c).map (lowC c)) := by
  unfold freeS
  rw [getD_cell hp, h, if_neg (by omega), if_neg hm, Int.toNat_natCast]

theorem good_range {zs l : List Int} (hz6 : zs.length ≤ 6) (h : goodB zs l = true) : ∀ x ∈ l, -1 ≤ x ∧ x ≤ 6 := fun x hx => by
  rcases goodB_at h hx with rfl | h
  · omega
  · have := isC_iff.1 h
    omega

set_option maxRecDepth 100000 in
set_option maxHeartbeats 1600000 in
theorem implDoFree {lo hi pa : Nat} {a b : Option Addr} {ca cb : Nat} {vs zs : List Int} (y : Int) {w : World} (h : HeapIn lo hi w a ca b cb (intVals vs) (intVals zs)) (hp : pa < vs.length) (hv4 : vs.length ≤ 4) (hz6 : zs.length ≤ 6) (hgv : goodB zs vs = true) (hgz : goodB zs zs = true) :
    Calls Tryz.prog 154 #[heV a vs.length ca b zs.length cb, .int .i64 pa, .int .i64 y] w (Acted lo hi (blocksH a b vs.length ca zs.length cb) (freeS pa vs zs) w) := by
  obtain ⟨g, rfl, hg1, hg2⟩ := h.v.block_ (by rw [intVals_length]; omega)
  have hhi := h.v.1
  have n0 : ¬ w.heap.size = g := by omega
  have n1 : ¬ w.heap.size + 1 = g := by omega
  have n2 : g < w.heap.size := by omega
  have n3 : g < w.heap.size + 1 := by omega
  have hsrc := h.v.cellInt pa hp
  by_cases hn : vs[pa] = -1
  · rw [free_null hp hn]
    rw [hn] at hsrc
    clear hn
    go_enter Tryz.func154, Tryz.ntmps154
    go_wp2
    refine bodyPost_ret (v := .tuple #[heV none 0 0 none 0 0, .int .i64 2]) (by simp [results, Tryz.results154, go_sem]) rfl ?_
    refine acted_bad (TurnB.of_below ?_)
    repeat (first | with_reducible exact Below.refl _ _ | refine Below.drew ?_ | refine Below.alloc ?_ (by simp <;> omega) _ | refine Below.setCell ?_ (by simp <;> omega) _)
  · obtain ⟨c, hc, hcl⟩ := var_cell hp hgv hn
    have hne : ((c : Int) == -1) = false := by simp only [beq_eq_false_iff_ne, ne_eq]; omega
    rw [hc] at hsrc
    have HC := Lib.hid hc
    clear hn hc
    have hfr := h.v.frozen_ pa
    obtain ⟨q, rfl, hq1, hq2⟩ := h.z.block_ (by rw [intVals_length]; omega)
    obtain ⟨W0, hW0, hb0, bn0, bp0⟩ := two_boxL (w.setCell ⟨g, pa, none⟩ (.int .i64 (-1))) [.slice (some ⟨g, 0, none⟩) vs.length ca, .slice (some ⟨q, 0, none⟩) zs.length cb] [.slice none 0 0, .slice none 0 0] 30 30
    replace hW0 : (((w.setCell ⟨g, pa, none⟩ (.int .i64 (-1))).alloc (.cells #[.slice (some ⟨g, 0, none⟩) vs.length ca, .slice (some ⟨q, 0, none⟩) zs.length cb] 30)).alloc (.cells #[.slice none 0 0, .slice none 0 0] 30)) = W0 := hW0
    rw [show (w.setCell ⟨g, pa, none⟩ (.int .i64 (-1))).heap.size = w.heap.size by simp] at bn0 bp0
    have h1 := h.setV (k := pa) (-1)
    have h0 := h1.below hb0
    have T0 := (turnB_at (S := (blocksH (some ⟨g, 0, none⟩) (some ⟨q, 0, none⟩) vs.length ca zs.length cb)) (k := pa) (w := w) (.int .i64 (-1)) hg1 hg2 (.inl rfl)).trans (TurnB.of_below hb0)
    have el : (vs.set pa (-1)).length = vs.length := List.length_set
    have k0 := bn0.c 0 _ rfl
    have k1 := bn0.c 1 _ rfl
    have r0 := bp0.c 0 _ rfl
    have r1 := bp0.c 1 _ rfl
    have rf := bp0.f
    have hs0 := bp0.lt
    obtain ⟨m1, hm1⟩ : ∃ m1, decide ((c : Int) ∈ vs.set pa (-1)) = m1 := ⟨_, rfl⟩
    obtain ⟨m2, hm2⟩ : ∃ m2, decide ((c : Int) ∈ zs) = m2 := ⟨_, rfl⟩
    have HM1 := Lib.hid hm1
    have HM2 := Lib.hid hm2
    have hgv' : goodB zs (vs.set pa (-1)) = true := by
      rw [goodB, List.all_eq_true]
      intro x hx
      rcases List.mem_or_eq_of_mem_set hx with hx | rfl
      · have := goodB_at hgv hx
        simpa using this
      · simp
    have hbv := good_range hz6 hgv'
    have hbz := good_range hz6 hgz
    clear hm1 hm2 h1 h hb0 bn0
    go_enter Tryz.func154, Tryz.ntmps154
    go_wp2_with fail
    clear hW0
    have hcv := libContains (some ⟨g, 0, none⟩) ca (vs.set pa (-1)) (c : Int) W0 (by unfold maxLen; omega) h0.rows.v
    rw [el, HM1.out] at hcv
    refine hcv.mono ?_
    rintro e w1 ⟨rfl, rfl⟩
    cases m1
    case' true =>
      have HR := Lib.hid (free_used (zs := zs) hp HC.out (.inl (of_decide_eq_true HM1.out)))
      go_wp2
      refine bodyPost_ret (v := .tuple #[heV none 0 0 none 0 0, .int .i64 5]) (by simp [results, Tryz.results154, go_sem, r0, r1]) rfl ?_
      rw [HR.out]
      refine acted_bad ?_
      repeat (first | with_reducible exact T0 | refine TurnB.setNew ?_ (by omega))
    case' false =>
      go_wp2_with fail
      refine (libContains (some ⟨q, 0, none⟩) cb zs (c : Int) _ (by unfold maxLen; omega) h0.rows.z).mono ?_
      rw [HM2.out]
      rintro e w2 ⟨rfl, rfl⟩
      cases m2
      case' true =>
        have HR := Lib.hid (free_used hp HC.out (.inr (of_decide_eq_true HM2.out)))
        go_wp2
        refine bodyPost_ret (v := .tuple #[heV none 0 0 none 0 0, .int .i64 5]) (by simp [results, Tryz.results154, go_sem, r0, r1]) rfl ?_
        rw [HR.out]
        refine acted_bad ?_
        repeat (first | with_reducible exact T0 | refine TurnB.setNew ?_ (by omega))
      case' false =>
        have HR := Lib.hid (free_ok hp HC.out (fun hh => hh.elim (of_decide_eq_false HM1.out) (of_decide_eq_false HM2.out)))
        go_wp2_with fail
        have hwo := implWithout (S := (blocksH (some ⟨g, 0, none⟩) (some ⟨q, 0, none⟩) vs.length ca zs.length cb)) h0 hq1 hq2 hcl (by omega) hz6 hbv hbz (.inr rfl) (fun g' e => by have e := Option.some.inj e; injection e with e; subst e; exact .inl rfl) (fun p e => by have e := Option.some.inj e; subst e; exact .inl rfl)
        rw [el] at hwo
        refine hwo.mono ?_
        rintro e w3 ⟨xa, xca, xb, xcb, rfl, h3, t3, hb3⟩
        have bp3 := bp0.turn t3.t (.inr (by omega))
        have q0 := bp3.c 0 _ rfl
        have q1 := bp3.c 1 _ rfl
        have qf := bp3.f
        have hX := heap_box (Q := w.heap.size + 1) (u := .slice xa ((vs.set pa (-1)).map (lowC c)).length xca) (v := .slice xb ((zs.eraseIdx c).map (lowC c)).length xcb) h3 (T0.trans t3) hhi (by omega)
        have HX := Lib.hid hX
        clear hX h3 hwo hcv r0 r1 rf k0 k1 bp0 bp3 h0
        generalize hvv : (vs.set pa (-1)).map (lowC c) = us at *
        generalize hzz : (zs.eraseIdx c).map (lowC c) = ys at *
        clear hvv hzz
        go_wp2
        refine bodyPost_ret (v := .tuple #[heV xa us.length xca xb ys.length xcb, .int .i64 0]) (by simp [results, Tryz.results154, go_sem, q0, q1]) rfl ?_
        rw [HR.out]
        exact acted_of rfl rfl HX.out.1 HX.out.2 (fun k hk => .inl (hb3 k (blocksH_any hk)))
end Go.Proofs.YtpmmjaceehlpiaaGreatDoor
/-
  The program's action that links a cell to another one.
-/
namespace Go.Proofs.YtpmmjaceehlpiaaGreatDoor
open Go Go.RowKit Go.ChangeShapes Go.WideShapes Go.ChangeAt

theorem link_null {pa pb : Nat} {vs zs : List Int} (hp : pa < vs.length) (h : vs[pa] = -1) : linkS pa pb vs zs = badC 2 := by
  unfold linkS
  rw [getD_cell hp, if_pos h]
theorem link_ring {pa pb c : Nat} {vs zs : List Int} (hp : pa < vs.length) (hq : pb < vs.length) (h : vs[pa] = (c : Int)) (hm : (c : Int) ∈ followed zs vs[pb]) : linkS pa pb vs zs = badC 3 := by
  unfold linkS
  rw [getD_cell hp, getD_cell hq, h, if_neg (by omega), if_pos hm]
theorem link_ok {pa pb c : Nat} {vs zs : List Int} (hp : pa < vs.length) (hq : pb < vs.length) (h : vs[pa] = (c : Int)) (hm : ¬ (c : Int) ∈ followed zs vs[pb]) : linkS pa pb vs zs = (0, vs, zs.set c vs[pb]) := by
  unfold linkS
  rw [getD_cell hp, getD_cell hq, h, if_neg (by omega), if_neg hm, Int.toNat_natCast]

set_option maxRecDepth 100000 in
set_option maxHeartbeats 1600000 in
theorem implDoLink {lo hi pa pb : Nat} {a b : Option Addr} {ca cb : Nat} {vs zs : List Int} {w : World} (h : HeapIn lo hi w a ca b cb (intVals vs) (intVals zs)) (hp : pa < vs.length) (hq : pb < vs.length) (hgv : goodB zs vs = true) (hz6 : zs.length ≤ 6) :
    Calls Tryz.prog 153 #[heV a vs.length ca b zs.length cb, .int .i64 pa, .int .i64 pb] w (Acted lo hi (blocksH a b vs.length ca zs.length cb) (linkS pa pb vs zs) w) := by
  obtain ⟨g, rfl, hg1, hg2⟩ := h.v.block_ (by rw [intVals_length]; omega)
  have hhi := h.v.1
  have n0 : ¬ w.heap.size = g := by omega
  have n1 : ¬ w.heap.size + 1 = g := by omega
  have n2 : g < w.heap.size := by omega
  have n3 : g < w.heap.size + 1 := by omega
  have hsrc := h.v.cellInt pa hp
  by_cases hn : vs[pa] = -1
  · rw [link_null hp hn]
    rw [hn] at hsrc
    clear hn
    go_enter Tryz.func153, Tryz.ntmps153
    go_wp2
    refine bodyPost_ret (v := .tuple #[heV none 0 0 none 0 0, .int .i64 2]) (by simp [results, Tryz.results153, go_sem]) rfl ?_
    refine acted_bad (TurnB.of_below ?_)
    repeat (first | with_reducible exact Below.refl _ _ | refine Below.drew ?_ | refine Below.alloc ?_ (by simp <;> omega) _ | refine Below.setCell ?_ (by simp <;> omega) _)
  · obtain ⟨c, hc, hcl⟩ := var_cell hp hgv hn
    have hne : ((c : Int) == -1) = false := by simp only [beq_eq_false_iff_ne, ne_eq]; omega
    rw [hc] at hsrc
    have hsrcb := h.v.cellInt pb hq
    clear hn
    obtain ⟨q, rfl, hq1, hq2⟩ := h.z.block_ (by rw [intVals_length]; omega)
    have HP := Lib.hid hp
    have HQ := Lib.hid hq
    have HC := Lib.hid hc
    obtain ⟨xb, hxb⟩ : ∃ xb, vs[pb]'hq = xb := ⟨_, rfl⟩
    have HXB := Lib.hid hxb
    rw [hxb] at hsrcb
    clear hxb hc
    obtain ⟨W0, hW0, hb0, bn0, bp0⟩ := two_boxL w [.slice (some ⟨g, 0, none⟩) vs.length ca, .slice (some ⟨q, 0, none⟩) zs.length cb] [.slice none 0 0, .slice none 0 0] 30 30
    replace hW0 : ((w.alloc (.cells #[.slice (some ⟨g, 0, none⟩) vs.length ca, .slice (some ⟨q, 0, none⟩) zs.length cb] 30)).alloc (.cells #[.slice none 0 0, .slice none 0 0] 30)) = W0 := hW0
    have c0 := bn0.c 0 _ rfl
    have c1 := bn0.c 1 _ rfl
    have hA : ∀ W, Below W0.heap.size W0 W → BoxL W w.heap.size [.slice (some ⟨g, 0, none⟩) vs.length ca, .slice (some ⟨q, 0, none⟩) zs.length cb] ∧ BoxL W (w.heap.size + 1) [.slice none 0 0, .slice none 0 0] ∧ HeapIn lo hi W (some ⟨g, 0, none⟩) ca (some ⟨q, 0, none⟩) cb (intVals vs) (intVals zs) ∧ TurnB lo hi (blocksH (some ⟨g, 0, none⟩) (some ⟨q, 0, none⟩) vs.length ca zs.length cb) w W := fun W hb =>
      ⟨bn0.below hb, bp0.below hb, h.turn (lo' := hi) (hi' := hi) (Turn.of_below (hb0.trans (hb.mono hb0.size))) (.inl (Nat.le_refl _)), TurnB.of_below (hb0.trans (hb.mono hb0.size))⟩
    have hS : ∀ W, Below W0.heap.size W0 W → (W.cell? ⟨w.heap.size, 0, none⟩ = some (.slice (some ⟨g, 0, none⟩) vs.length ca) ∧ W.cell? ⟨w.heap.size, 1, none⟩ = some (.slice (some ⟨q, 0, none⟩) zs.length cb)) ∧ (W.cell? ⟨g, pa, none⟩ = some (.int .i64 (c : Int)) ∧ W.cell? ⟨g, pb, none⟩ = some (.int .i64 xb)) := fun W hb =>
      ⟨⟨(hA W hb).1.c 0 _ rfl, (hA W hb).1.c 1 _ rfl⟩, by have := (hA W hb).2.2.1.v.cellInt pa HP.out; rw [HC.out] at this; exact this, by have := (hA W hb).2.2.1.v.cellInt pb HQ.out; rw [HXB.out] at this; exact this⟩
    have s0 := (hS W0 (Below.refl _ _)).2.1
    have HA := Lib.hid hA
    have HS := Lib.hid hS
    have hD : Below W0.heap.size W0 W0.drew := Below.drew (Below.refl _ _)
    have hfl : (followed zs xb).length ≤ maxLen := by have := (followed_ok zs xb).len; unfold maxLen; omega
    clear hA hS h bn0 bp0 hb0
    obtain ⟨mb, hmb⟩ : ∃ mb, decide ((c : Int) ∈ followed zs xb) = mb := ⟨_, rfl⟩
    have HMB := Lib.hid hmb
    clear hmb
    go_enter Tryz.func153, Tryz.ntmps153
    go_wp2
    clear hW0
    go_region_held3 (fun W => (W.cell? ⟨w.heap.size, 0, none⟩ = some (.slice (some ⟨g, 0, none⟩) vs.length ca) ∧ W.cell? ⟨w.heap.size, 1, none⟩ = some (.slice (some ⟨q, 0, none⟩) zs.length cb)) ∧ (W.cell? ⟨g, pa, none⟩ = some (.int .i64 (c : Int)) ∧ W.cell? ⟨g, pb, none⟩ = some (.int .i64 xb)))
      (first | exact HS.out _ hD | exact HS.out _ (Below.drew hD) | exact HS.out _ H1)
      (first
        | (go_at_call 130; (with_reducible refine (implFollowed (some ⟨g, 0, none⟩) (some ⟨q, 0, none⟩) vs.length ca cb zs xb _ (by omega) (HA.out _ hD).2.2.1.rows.z).mono ?_); rintro e w1 ⟨fa, fc, rfl, _, hf1, hb1⟩; rw [intVals_length] at hf1 ⊢; have H1 := hD.trans (hb1.mono hD.size))
        | (go_at_call 53; (with_reducible refine (libContains fa fc (followed zs xb) (c : Int) _ hfl (Row.owned hf1)).mono ?_); rw [HMB.out]; rintro e w2 ⟨rfl, rfl⟩))
    obtain ⟨bn1, bp1, h1, T1⟩ := HA.out _ H1
    have hbl := h1.blocks
    have d0 := bn1.c 0 _ rfl
    have d1 := bn1.c 1 _ rfl
    have d2 := bp1.c 0 _ rfl
    have d3 := bp1.c 1 _ rfl
    have df := bp1.f
    have hs1 := bp1.lt
    have k0 := h1.v.cellInt pa hp
    rw [HC.out] at k0
    have k1 := h1.v.cellInt pb hq
    rw [HXB.out] at k1
    have k2 := h1.z.cellInt c hcl
    have k3 := h1.z.frozen_ c
    clear c0 c1 s0 HA HS hD H1 hb1 hf1 hsrc hsrcb hfl bn1 bp1
    cases mb
    case' true =>
      have HR := Lib.hid (link_ring hp hq HC.out (by rw [HXB.out]; exact of_decide_eq_true HMB.out))
      go_wp2
      refine bodyPost_ret (v := .tuple #[heV none 0 0 none 0 0, .int .i64 3]) (by simp [results, Tryz.results153, go_sem, d2, d3]) rfl ?_
      rw [HR.out]
      refine acted_bad ?_
      repeat (first | with_reducible exact T1 | refine TurnB.setNew ?_ (by omega))
    case' false =>
      have hlo := link_ok hp hq HC.out (by rw [HXB.out]; exact of_decide_eq_false HMB.out)
      rw [HXB.out] at hlo
      have HR := Lib.hid hlo
      clear hlo
      go_wp2
      go_region
      all_goals
        go_wp2
        refine bodyPost_ret (v := .tuple #[heV (some ⟨g, 0, none⟩) vs.length ca (some ⟨q, 0, none⟩) zs.length cb, .int .i64 0]) (by simp [results, Tryz.results153, go_sem, d2, d3]) rfl ?_
        rw [HR.out]
        have hX := heap_box (Q := w.heap.size + 1) (u := .slice (some ⟨g, 0, none⟩) vs.length ca) (v := .slice (some ⟨q, 0, none⟩) zs.length cb) (h1.setZ (k := c) xb) (T1.trans (turnB_at (.int .i64 xb) hq1 hq2 (.inr rfl))) hhi (by omega)
        exact acted_of rfl List.length_set hX.1.draws hX.2.draws
end Go.Proofs.YtpmmjaceehlpiaaGreatDoor
/-
  The program's action that makes a cell.
-/
namespace Go.Proofs.YtpmmjaceehlpiaaGreatDoor
open Go Go.RowKit Go.ChangeShapes Go.WideShapes Go.ChangeAt

/-- A row of a heap grew by one cell, perhaps in a new block. -/
theorem HeapIn.pushZ {lo hi B : Nat} {S : Nat → Prop} {W W' : World} {a b : Option Addr} {ca cb : Nat} {vs zs : List Int} {b' : Option Addr} {cb' : Nat} {x : Int} (h : HeapIn lo hi W a ca b cb (intVals vs) (intVals zs))
    (ho : W'.ownsRow lo 3 1 (.slice b' (zs.length + 1) cb') (zs.length + 1) (intVals (zs ++ [x]))) (hg : W.grownBy W' (Value.slice b zs.length cb).ownBlock) (hl : (Value.slice b' (zs.length + 1) cb').ownBlock = (Value.slice b zs.length cb).ownBlock ∨ ∃ k, (Value.slice b' (zs.length + 1) cb').ownBlock = some k ∧ B ≤ k) (hB : hi ≤ B) (hS : ∀ k, blocksH a b vs.length ca zs.length cb k → S k) :
    HeapIn lo W'.heap.size W' a ca b' cb' (intVals vs) (intVals (zs ++ [x])) ∧ TurnB lo hi S W W' ∧ ∀ k, blocksH a b' vs.length ca (zs ++ [x]).length cb' k → (S k ∧ k < hi) ∨ B ≤ k := by
  have el : (intVals (zs ++ [x])).length = zs.length + 1 := by rw [intVals_length]; simp
  have hv := h.v
  have hz := h.z
  have hap := h.apart
  rw [intVals_length] at hv hz hap
  rw [intVals_length] at hap
  have hv' := own_other hv.2.1 hg (fun k hk e => hap k hk e.symm)
  refine ⟨⟨?_, ?_, ?_⟩, TurnB.of_grown hg fun k hk => ⟨(hz.2.1.lt k hk).1, hz.2.2 k hk, hS k (.inr hk)⟩, fun k hk => ?_⟩
  · rw [intVals_length]
    exact ⟨Nat.le_refl _, hv', fun k hk => Nat.lt_of_lt_of_le (hv.2.2 k hk) (Nat.le_trans hv.1 hg.size)⟩
  · rw [el]
    exact OwnIn.of ho
  · rw [el, intVals_length]
    intro j hj1 hj2
    rcases hl with e | ⟨k, e, hk⟩
    · exact hap j hj1 (e ▸ hj2)
    · have h1 := hv.2.2 j hj1
      rw [e] at hj2
      have := Option.some.inj hj2
      omega
  · rcases hk with e | e
    · exact .inl ⟨hS k (.inl e), hv.2.2 k e⟩
    · rw [List.length_append, List.length_singleton] at e
      rcases hl with q | ⟨j, q, hj⟩
      · exact .inl ⟨hS k (.inr (q ▸ e)), hz.2.2 k (q ▸ e)⟩
      · rw [q] at e
        obtain rfl := Option.some.inj e
        exact .inr hj

set_option maxRecDepth 100000 in
set_option maxHeartbeats 1600000 in
theorem implDoNew {lo hi pa : Nat} {a b : Option Addr} {ca cb : Nat} {vs zs : List Int} (y : Int) {w : World} (h : HeapIn lo hi w a ca b cb (intVals vs) (intVals zs)) (hp : pa < vs.length) (hz6 : zs.length ≤ 6) :
    Calls Tryz.prog 149 #[heV a vs.length ca b zs.length cb, .int .i64 pa, .int .i64 y] w (Acted lo hi (blocksH a b vs.length ca zs.length cb) (if zs.length = 6 then badC 6 else (0, vs.set pa (zs.length : Int), zs ++ [-1])) w) := by
  obtain ⟨i0, hi0, hz0, hz1, hz2⟩ := info_parts intInfoH
  by_cases h6 : zs.length = 6
  · rw [if_pos h6]
    have h6i : ((zs.length : Int) == 6) = true := by simp only [beq_iff_eq]; omega
    clear h6 hz6
    go_enter Tryz.func149, Tryz.ntmps149
    go_wp2
    refine bodyPost_ret (v := .tuple #[heV none 0 0 none 0 0, .int .i64 6]) (by simp [results, Tryz.results149, go_sem]) rfl ?_
    refine acted_bad (TurnB.of_below ?_)
    repeat (first | with_reducible exact Below.refl _ _ | refine Below.drew ?_ | refine Below.alloc ?_ (by simp <;> omega) _ | refine Below.setCell ?_ (by simp <;> omega) _)
  · rw [if_neg h6]
    have h6i : ((zs.length : Int) == 6) = false := by simp only [beq_eq_false_iff_ne, ne_eq]; omega
    obtain ⟨g, rfl, hg1, hg2⟩ := h.v.block_ (by rw [intVals_length]; omega)
    have hhi := h.v.1
    have n0 : ¬ w.heap.size = g := by omega
    have n1 : ¬ w.heap.size + 1 = g := by omega
    have n2 : g < w.heap.size := by omega
    have n3 : g < w.heap.size + 1 := by omega
    have hold := h.v.cellInt pa hp
    have hfr := h.v.frozen_ pa
    have h1 := h.setV (k := pa) (zs.length : Int)
    have t1 : TurnB lo hi (blocksH (some ⟨g, 0, none⟩) b vs.length ca zs.length cb) w (w.setCell ⟨g, pa, none⟩ (.int .i64 (zs.length : Int))) := turnB_at _ hg1 hg2 (.inl rfl)
    obtain ⟨W0, hW0, hb0, bn0, bp0⟩ := two_boxL (w.setCell ⟨g, pa, none⟩ (.int .i64 (zs.length : Int))) [.slice (some ⟨g, 0, none⟩) vs.length ca, .slice b zs.length cb] [.slice none 0 0, .slice none 0 0] 30 30
    replace hW0 : ((w.setCell ⟨g, pa, none⟩ (.int .i64 (zs.length : Int))).alloc (.cells #[.slice (some ⟨g, 0, none⟩) vs.length ca, .slice b zs.length cb] 30)).alloc (.cells #[.slice none 0 0, .slice none 0 0] 30) = W0 := hW0
    have hs0 : (w.setCell ⟨g, pa, none⟩ (.int .i64 (zs.length : Int))).heap.size = w.heap.size := by simp
    rw [hs0] at bn0 bp0
    have h0 := h1.below hb0
    have T0 := t1.trans (TurnB.of_below hb0)
    have hown0 := h0.z.2.1
    rw [intVals_length] at hown0
    have hlow : lo ≤ W0.heap.size := by have := bp0.lt; omega
    have hal := (Below.refl W0.heap.size W0).alloc (Nat.le_refl _) (.cells #[.int .i64 (-1)] 3)
    have h0a := h0.below hal
    have bn0a := bn0.below hal
    have bp0a := bp0.below hal
    have T0a := T0.trans (TurnB.of_below hal)
    have hbig : w.heap.size + 1 < W0.heap.size := bp0.lt
    have hown0a := h0a.z.2.1
    rw [intVals_length] at hown0a
    have hzlt := h0a.z.2.2
    rw [intVals_length] at hzlt
    have k0 := bn0.c 0 _ rfl
    have k1 := bn0.c 1 _ rfl
    clear h1 t1 h bn0 bp0 hb0 T0 h0 hown0
    go_enter Tryz.func149, Tryz.ntmps149
    go_wp2_with (first
      | (at_builtin; (try rw [hW0]); refine wpList_append_own_at _ rfl (.tmp 21) (.tmp 22) 28 rfl lo 3 i0 (.int .i64 0) 1 8 Tryz.underlying28 hi0 hz0 hz1 hz2 rfl (by decide) _ zs.length _ rfl hown0a ⟨W0.heap.size, 0, none⟩ 1 1 [.int .i64 (-1)] rfl rfl (oneCell_at _) (oneCell_int _) (by unfold maxLen; omega) (by omega) (by simp; omega) ?_; intro v5 w5 hown5 hg5 _ hloc; obtain ⟨va5, vc5, rfl, _⟩ := own_shape hown5; obtain ⟨h5, t5, hbl⟩ := h0a.pushZ (S := blocksH (some ⟨g, 0, none⟩) b vs.length ca zs.length cb) (B := W0.heap.size) (x := -1) (by rw [intVals_snoc]; exact hown5) hg5 (hloc.imp id fun e => Exists.intro _ (And.intro e (by simp))) (by omega) (fun k hk => blocksH_any hk); have bn5 := bn0a.turn t5.t (.inr (by omega)); have bp5 := bp0a.turn t5.t (.inr (by omega)); have d0 := bn5.c 0 _ rfl; have d1 := bn5.c 1 _ rfl; have df := bn5.f; have e0 := bp5.c 0 _ rfl; have e1 := bp5.c 1 _ rfl; have ef := bp5.f; have hs5 := bp5.lt; clear bn5 bp5 bn0a bp0a hown5 hg5 hloc h0a hown0a hzlt)
      | fail)
    refine bodyPost_ret (v := .tuple #[heV (some ⟨g, 0, none⟩) vs.length ca va5 (zs.length + 1) vc5, .int .i64 0]) (by simp [results, Tryz.results149, go_sem, e0, e1]) rfl ?_
    refine acted_of List.length_set (by simp) ?_ ?_ (fun k hk => (hbl k hk).imp (fun hh => hh.1) (fun hh => by omega))
    · have hs : (((w5.setCell ⟨w.heap.size, 1, none⟩ (.slice va5 (zs.length + 1) vc5)).setCell ⟨w.heap.size + 1, 0, none⟩ (.slice (some ⟨g, 0, none⟩) vs.length ca)).setCell ⟨w.heap.size + 1, 1, none⟩ (.slice va5 (zs.length + 1) vc5)).heap.size = w5.heap.size := by simp
      rw [hs]
      exact ((h5.setNot fun k hk => by have := hbl k hk; omega).setNot fun k hk => by have := hbl k hk; omega).setNot fun k hk => by have := hbl k hk; omega
    · repeat (first | with_reducible exact T0a.trans t5 | refine TurnB.setNew ?_ (by omega))
end Go.Proofs.YtpmmjaceehlpiaaGreatDoor
/-
  The program's tests of a heap; the actions that they make.
-/
namespace Go.Proofs.YtpmmjaceehlpiaaGreatDoor
open Go Go.RowKit Go.ChangeShapes Go.WideShapes Go.ChangeAt Go.Sort

/-- A question about a heap. -/
theorem implIsNull {pa : Nat} {a b : Option Addr} {ca cb : Nat} {vs zs : List Int} (y : Int) {w : World} (h : HeapAt w a b vs zs) (hp : pa < vs.length) :
    Calls Tryz.prog 156 #[heV a vs.length ca b zs.length cb, .int .i64 pa, .int .i64 y] w (GaveX (.bool (decide (vs.getD pa (-1) = -1))) w) := by
  rw [getD_cell hp]
  obtain ⟨g, o, rfl, hg, hc⟩ := h.v pa _ (intVals_at vs pa hp)
  have n0 : ¬ w.heap.size = g := by omega
  go_enter Tryz.func156, Tryz.ntmps156
  go_wp2
  go_ret
  exact ⟨rfl, (Below.refl _ _).alloc (Nat.le_refl _) _⟩
theorem implAreSame {pa pb : Nat} {a b : Option Addr} {ca cb : Nat} {vs zs : List Int} {w : World} (h : HeapAt w a b vs zs) (hp : pa < vs.length) (hq : pb < vs.length) :
    Calls Tryz.prog 157 #[heV a vs.length ca b zs.length cb, .int .i64 pa, .int .i64 pb] w (GaveX (.bool (decide (vs.getD pa (-1) = vs.getD pb (-1)))) w) := by
  rw [getD_cell hp, getD_cell hq]
  obtain ⟨g, o, rfl, hg, hc⟩ := h.v pa _ (intVals_at vs pa hp)
  obtain ⟨g', o', e, hg', hc'⟩ := h.v pb _ (intVals_at vs pb hq)
  obtain ⟨rfl, rfl⟩ : g = g' ∧ o = o' := by
    injection e with e
    injection e with e1 e2
    exact ⟨e1, e2⟩
  have n0 : ¬ w.heap.size = g := by omega
  go_enter Tryz.func157, Tryz.ntmps157
  go_wp2
  go_region
  all_goals
    go_wp2
    go_ret
    exact ⟨rfl, ((Below.refl _ _).alloc (Nat.le_refl _) _).drew⟩

/-- The cells of a test's action: the question, what is wanted. -/
structure CondAt (w : World) (c d : Nat) (f : FuncId) (t : Bool) : Prop where
  q : w.cell? ⟨c, 0, none⟩ = some (.func (.func f) #[] #[])
  t : w.cell? ⟨d, 0, none⟩ = some (.bool t)
  lq : c < w.heap.size
  lt : d < w.heap.size
set_option maxHeartbeats 800000 in
theorem implTestNull {lo hi : Nat} {a b : Option Addr} {ca cb : Nat} {vs zs : List Int} (x y : Int) {c d : Nat} {t r : Bool} {w : World} (h : HeapIn lo hi w a ca b cb (intVals vs) (intVals zs)) (hc : CondAt w c d 156 t)
    (hf : ∀ W, HeapAt W a b vs zs → Calls Tryz.prog 156 #[heV a vs.length ca b zs.length cb, .int .i64 x, .int .i64 y] W (GaveX (.bool r) W)) :
    Calls Tryz.prog 165 #[heV a vs.length ca b zs.length cb, .int .i64 x, .int .i64 y, .pointer (some ⟨c, 0, none⟩), .pointer (some ⟨d, 0, none⟩)] w (Acted lo hi (blocksH a b vs.length ca zs.length cb) (if r = t then (0, vs, zs) else badC 1) w) := by
  obtain ⟨q0, t0, lq, lt⟩ := hc
  have hr := h.rows
  by_cases hrt : r = t
  · rw [if_pos hrt]
    subst hrt
    have hrr : (r != r) = false := by simp
    go_enter Tryz.func165, Tryz.ntmps165
    go_wp2
    obtain ⟨W0, hW0, hb0, bn0, bp0⟩ := two_boxL w [.slice a vs.length ca, .slice b zs.length cb] [.slice none 0 0, .slice none 0 0] 30 30
    rw [show ((w.alloc (.cells #[.slice a vs.length ca, .slice b zs.length cb] 30)).alloc (.cells #[.slice none 0 0, .slice none 0 0] 30)) = W0 from hW0]
    clear hW0
    have c0 := fun d os => cell_regrown (bn0.c 0 _ rfl) d os
    have c1 := fun d os => cell_regrown (bn0.c 1 _ rfl) d os
    have c2 := fun d os => cell_regrown ((hb0.cell (p := ⟨c, 0, none⟩) lq).trans q0) d os
    have c3 := fun e os => cell_regrown ((hb0.cell (p := ⟨d, 0, none⟩) lt).trans t0) e os
    have hrow := hr.below hb0 (Nat.le_refl _)
    have HC := Lib.hid (show ∀ e os, Calls Tryz.prog 156 #[heV a vs.length ca b zs.length cb, .int .i64 x, .int .i64 y] (Go.Sort.grow (redrawn W0 e) os) (GaveX (.bool r) (Go.Sort.grow (redrawn W0 e) os)) from fun e os => hf _ (hrow.again e os))
    clear hf q0 t0
    refine wp_region_quiet_below (by kernel_rfl) (by kernel_rfl) ?_
    repeat (go_big_quiet_step (first | (go_at_call 156; with_reducible exact at_again (HC.out _ _))))
    refine wpQuiet_nil ?_
    rintro w1 ⟨⟨e, os⟩, rfl⟩
    have hb1 := below_regrown W0 e os
    have T1 := TurnB.of_below (lo := lo) (hi := hi) (S := (blocksH a b vs.length ca zs.length cb)) (hb0.trans (hb1.mono hb0.size))
    have bn1 := bn0.below hb1
    have bp1 := bp0.below hb1
    have h1 := h.turn (lo' := hi) (hi' := hi) (Turn.of_below (hb0.trans (hb1.mono hb0.size))) (.inl (Nat.le_refl _))
    have hbl := h.blocks
    have hhi := h.v.1
    clear c0 c1 c2 c3 HC bn0 bp0
    generalize Go.Sort.grow (redrawn W0 e) os = W1 at *
    have d0 := bn1.c 0 _ rfl
    have d1 := bn1.c 1 _ rfl
    have d2 := bp1.c 0 _ rfl
    have d3 := bp1.c 1 _ rfl
    have df := bp1.f
    have hs1 := bp1.lt
    go_wp2
    refine bodyPost_ret (v := .tuple #[heV a vs.length ca b zs.length cb, .int .i64 0]) (by simp [results, Tryz.results165, go_sem, d2, d3]) rfl ?_
    refine acted_of rfl rfl ?_ ?_
    · have hs : ((W1.setCell ⟨w.heap.size + 1, 0, none⟩ (.slice a vs.length ca)).setCell ⟨w.heap.size + 1, 1, none⟩ (.slice b zs.length cb)).heap.size = W1.heap.size := by simp
      rw [hs]
      exact ((h1.setNot (Q := w.heap.size + 1) fun k hk => by have := hbl k hk; omega).setNot (Q := w.heap.size + 1) fun k hk => by have := hbl k hk; omega).mono (Nat.le_refl _) (by have := h1.v.1; omega) (by simp)
    · repeat (first | with_reducible exact T1 | refine TurnB.setNew ?_ (by omega))
  · rw [if_neg hrt]
    have hrr : (r == t) = false := by simpa using hrt
    go_enter Tryz.func165, Tryz.ntmps165
    go_wp2
    obtain ⟨W0, hW0, hb0, bn0, bp0⟩ := two_boxL w [.slice a vs.length ca, .slice b zs.length cb] [.slice none 0 0, .slice none 0 0] 30 30
    rw [show ((w.alloc (.cells #[.slice a vs.length ca, .slice b zs.length cb] 30)).alloc (.cells #[.slice none 0 0, .slice none 0 0] 30)) = W0 from hW0]
    clear hW0
    have c0 := fun d os => cell_regrown (bn0.c 0 _ rfl) d os
    have c1 := fun d os => cell_regrown (bn0.c 1 _ rfl) d os
    have c2 := fun d os => cell_regrown ((hb0.cell (p := ⟨c, 0, none⟩) lq).trans q0) d os
    have c3 := fun e os => cell_regrown ((hb0.cell (p := ⟨d, 0, none⟩) lt).trans t0) e os
    have hrow := hr.below hb0 (Nat.le_refl _)
    have HC := Lib.hid (show ∀ e os, Calls Tryz.prog 156 #[heV a vs.length ca b zs.length cb, .int .i64 x, .int .i64 y] (Go.Sort.grow (redrawn W0 e) os) (GaveX (.bool r) (Go.Sort.grow (redrawn W0 e) os)) from fun e os => hf _ (hrow.again e os))
    clear hf q0 t0
    refine wp_region_quiet_below (by kernel_rfl) (by kernel_rfl) ?_
    repeat (go_big_quiet_step (first | (go_at_call 156; with_reducible exact at_again (HC.out _ _))))
    refine wpQuiet_nil ?_
    rintro w1 ⟨⟨e, os⟩, rfl⟩
    have hb1 := below_regrown W0 e os
    have T1 := TurnB.of_below (lo := lo) (hi := hi) (S := (blocksH a b vs.length ca zs.length cb)) (hb0.trans (hb1.mono hb0.size))
    have bn1 := bn0.below hb1
    have bp1 := bp0.below hb1
    have h1 := h.turn (lo' := hi) (hi' := hi) (Turn.of_below (hb0.trans (hb1.mono hb0.size))) (.inl (Nat.le_refl _))
    have hbl := h.blocks
    have hhi := h.v.1
    clear c0 c1 c2 c3 HC bn0 bp0
    generalize Go.Sort.grow (redrawn W0 e) os = W1 at *
    have d0 := bn1.c 0 _ rfl
    have d1 := bn1.c 1 _ rfl
    have d2 := bp1.c 0 _ rfl
    have d3 := bp1.c 1 _ rfl
    have df := bp1.f
    have hs1 := bp1.lt
    go_wp2
    refine bodyPost_ret (v := .tuple #[heV none 0 0 none 0 0, .int .i64 1]) (by simp [results, Tryz.results165, go_sem, d2, d3]) rfl ?_
    refine acted_bad ?_
    repeat (first | with_reducible exact T1 | refine TurnB.setNew ?_ (by omega))
set_option maxHeartbeats 800000 in
theorem implTestSame {lo hi : Nat} {a b : Option Addr} {ca cb : Nat} {vs zs : List Int} (x y : Int) {c d : Nat} {t r : Bool} {w : World} (h : HeapIn lo hi w a ca b cb (intVals vs) (intVals zs)) (hc : CondAt w c d 157 t)
    (hf : ∀ W, HeapAt W a b vs zs → Calls Tryz.prog 157 #[heV a vs.length ca b zs.length cb, .int .i64 x, .int .i64 y] W (GaveX (.bool r) W)) :
    Calls Tryz.prog 165 #[heV a vs.length ca b zs.length cb, .int .i64 x, .int .i64 y, .pointer (some ⟨c, 0, none⟩), .pointer (some ⟨d, 0, none⟩)] w (Acted lo hi (blocksH a b vs.length ca zs.length cb) (if r = t then (0, vs, zs) else badC 1) w) := by
  obtain ⟨q0, t0, lq, lt⟩ := hc
  have hr := h.rows
  by_cases hrt : r = t
  · rw [if_pos hrt]
    subst hrt
    have hrr : (r != r) = false := by simp
    go_enter Tryz.func165, Tryz.ntmps165
    go_wp2
    obtain ⟨W0, hW0, hb0, bn0, bp0⟩ := two_boxL w [.slice a vs.length ca, .slice b zs.length cb] [.slice none 0 0, .slice none 0 0] 30 30
    rw [show ((w.alloc (.cells #[.slice a vs.length ca, .slice b zs.length cb] 30)).alloc (.cells #[.slice none 0 0, .slice none 0 0] 30)) = W0 from hW0]
    clear hW0
    have c0 := fun d os => cell_regrown (bn0.c 0 _ rfl) d os
    have c1 := fun d os => cell_regrown (bn0.c 1 _ rfl) d os
    have c2 := fun d os => cell_regrown ((hb0.cell (p := ⟨c, 0, none⟩) lq).trans q0) d os
    have c3 := fun e os => cell_regrown ((hb0.cell (p := ⟨d, 0, none⟩) lt).trans t0) e os
    have hrow := hr.below hb0 (Nat.le_refl _)
    have HC := Lib.hid (show ∀ e os, Calls Tryz.prog 157 #[heV a vs.length ca b zs.length cb, .int .i64 x, .int .i64 y] (Go.Sort.grow (redrawn W0 e) os) (GaveX (.bool r) (Go.Sort.grow (redrawn W0 e) os)) from fun e os => hf _ (hrow.again e os))
    clear hf q0 t0
    refine wp_region_quiet_below (by kernel_rfl) (by kernel_rfl) ?_
    repeat (go_big_quiet_step (first | (go_at_call 157; with_reducible exact at_again (HC.out _ _))))
    refine wpQuiet_nil ?_
    rintro w1 ⟨⟨e, os⟩, rfl⟩
    have hb1 := below_regrown W0 e os
    have T1 := TurnB.of_below (lo := lo) (hi := hi) (S := (blocksH a b vs.length ca zs.length cb)) (hb0.trans (hb1.mono hb0.size))
    have bn1 := bn0.below hb1
    have bp1 := bp0.below hb1
    have h1 := h.turn (lo' := hi) (hi' := hi) (Turn.of_below (hb0.trans (hb1.mono hb0.size))) (.inl (Nat.le_refl _))
    have hbl := h.blocks
    have hhi := h.v.1
    clear c0 c1 c2 c3 HC bn0 bp0
    generalize Go.Sort.grow (redrawn W0 e) os = W1 at *
    have d0 := bn1.c 0 _ rfl
    have d1 := bn1.c 1 _ rfl
    have d2 := bp1.c 0 _ rfl
    have d3 := bp1.c 1 _ rfl
    have df := bp1.f
    have hs1 := bp1.lt
    go_wp2
    refine bodyPost_ret (v := .tuple #[heV a vs.length ca b zs.length cb, .int .i64 0]) (by simp [results, Tryz.results165, go_sem, d2, d3]) rfl ?_
    refine acted_of rfl rfl ?_ ?_
    · have hs : ((W1.setCell ⟨w.heap.size + 1, 0, none⟩ (.slice a vs.length ca)).setCell ⟨w.heap.size + 1, 1, none⟩ (.slice b zs.length cb)).heap.size = W1.heap.size := by simp
      rw [hs]
      exact ((h1.setNot (Q := w.heap.size + 1) fun k hk => by have := hbl k hk; omega).setNot (Q := w.heap.size + 1) fun k hk => by have := hbl k hk; omega).mono (Nat.le_refl _) (by have := h1.v.1; omega) (by simp)
    · repeat (first | with_reducible exact T1 | refine TurnB.setNew ?_ (by omega))
  · rw [if_neg hrt]
    have hrr : (r == t) = false := by simpa using hrt
    go_enter Tryz.func165, Tryz.ntmps165
    go_wp2
    obtain ⟨W0, hW0, hb0, bn0, bp0⟩ := two_boxL w [.slice a vs.length ca, .slice b zs.length cb] [.slice none 0 0, .slice none 0 0] 30 30
    rw [show ((w.alloc (.cells #[.slice a vs.length ca, .slice b zs.length cb] 30)).alloc (.cells #[.slice none 0 0, .slice none 0 0] 30)) = W0 from hW0]
    clear hW0
    have c0 := fun d os => cell_regrown (bn0.c 0 _ rfl) d os
    have c1 := fun d os => cell_regrown (bn0.c 1 _ rfl) d os
    have c2 := fun d os => cell_regrown ((hb0.cell (p := ⟨c, 0, none⟩) lq).trans q0) d os
    have c3 := fun e os => cell_regrown ((hb0.cell (p := ⟨d, 0, none⟩) lt).trans t0) e os
    have hrow := hr.below hb0 (Nat.le_refl _)
    have HC := Lib.hid (show ∀ e os, Calls Tryz.prog 157 #[heV a vs.length ca b zs.length cb, .int .i64 x, .int .i64 y] (Go.Sort.grow (redrawn W0 e) os) (GaveX (.bool r) (Go.Sort.grow (redrawn W0 e) os)) from fun e os => hf _ (hrow.again e os))
    clear hf q0 t0
    refine wp_region_quiet_below (by kernel_rfl) (by kernel_rfl) ?_
    repeat (go_big_quiet_step (first | (go_at_call 157; with_reducible exact at_again (HC.out _ _))))
    refine wpQuiet_nil ?_
    rintro w1 ⟨⟨e, os⟩, rfl⟩
    have hb1 := below_regrown W0 e os
    have T1 := TurnB.of_below (lo := lo) (hi := hi) (S := (blocksH a b vs.length ca zs.length cb)) (hb0.trans (hb1.mono hb0.size))
    have bn1 := bn0.below hb1
    have bp1 := bp0.below hb1
    have h1 := h.turn (lo' := hi) (hi' := hi) (Turn.of_below (hb0.trans (hb1.mono hb0.size))) (.inl (Nat.le_refl _))
    have hbl := h.blocks
    have hhi := h.v.1
    clear c0 c1 c2 c3 HC bn0 bp0
    generalize Go.Sort.grow (redrawn W0 e) os = W1 at *
    have d0 := bn1.c 0 _ rfl
    have d1 := bn1.c 1 _ rfl
    have d2 := bp1.c 0 _ rfl
    have d3 := bp1.c 1 _ rfl
    have df := bp1.f
    have hs1 := bp1.lt
    go_wp2
    refine bodyPost_ret (v := .tuple #[heV none 0 0 none 0 0, .int .i64 1]) (by simp [results, Tryz.results165, go_sem, d2, d3]) rfl ?_
    refine acted_bad ?_
    repeat (first | with_reducible exact T1 | refine TurnB.setNew ?_ (by omega))
end Go.Proofs.YtpmmjaceehlpiaaGreatDoor
/-
  Which action the program takes for a kind of statement, and what it comes to.
-/
namespace Go.Proofs.YtpmmjaceehlpiaaGreatDoor
open Go Go.RowKit Go.ChangeShapes Go.WideShapes Go.ChangeAt

/-- A function that performs the statements of kind k. -/
def ActOk (w : World) (k : Int) (f : FuncId) (caps : Array Value) : Prop :=
  ∀ (W : World) (lo hi : Nat) (a : Option Addr) (ca : Nat) (b : Option Addr) (cb : Nat) (vs zs : List Int) (x y : Int), Below w.heap.size w W → HeapIn lo hi W a ca b cb (intVals vs) (intVals zs) → vs.length ≤ 4 → zs.length ≤ 6 → goodB zs vs = true → goodB zs zs = true →
    (1 ≤ namesN k → 0 ≤ x ∧ x < (vs.length : Int)) → (2 ≤ namesN k → 0 ≤ y ∧ y < (vs.length : Int)) → Calls Tryz.prog f (#[heV a vs.length ca b zs.length cb, .int .i64 x, .int .i64 y] ++ caps) W (Acted lo hi (blocksH a b vs.length ca zs.length cb) (doS k x.toNat y.toNat vs zs) W)
theorem nat_of {x : Int} {n : Nat} (h : 0 ≤ x ∧ x < (n : Int)) : ∃ k : Nat, x = (k : Int) ∧ k < n := ⟨x.toNat, by omega, by omega⟩
/-- The action for a kind. -/
def ActionEnd (k : Int) (w : World) (e : Ending) (w' : World) : Prop := ∃ f caps, e = .returned (.func (.func f) #[] caps) ∧ ActOk w' k f caps ∧ Below w.heap.size w w' ∧ ∀ (args : Array Value) (W : World), (callFunc f args).run Tryz.prog W = .ok (.enter f args) W
theorem actOk_1 (w : World) : ActOk w 1 147 #[] := by
  intro W lo hi a ca b cb vs zs x y _ h hv4 hz6 hgv hgz hx hy
  exact implDoSkip x y h
theorem actOk_2 (w : World) : ActOk w 2 148 #[] := by
  intro W lo hi a ca b cb vs zs x y _ h hv4 hz6 hgv hgz hx hy
  obtain ⟨pa, rfl, hp⟩ := nat_of (hx (by decide))
  exact implDoNull y h hp
theorem actOk_3 (w : World) : ActOk w 3 149 #[] := by
  intro W lo hi a ca b cb vs zs x y _ h hv4 hz6 hgv hgz hx hy
  obtain ⟨pa, rfl, hp⟩ := nat_of (hx (by decide))
  exact implDoNew y h hp hz6
theorem actOk_4 (w : World) : ActOk w 4 150 #[] := by
  intro W lo hi a ca b cb vs zs x y _ h hv4 hz6 hgv hgz hx hy
  obtain ⟨pa, rfl, hp⟩ := nat_of (hx (by decide))
  obtain ⟨pb, rfl, hq⟩ := nat_of (hy (by decide))
  exact implDoCopy h hp hq
theorem actOk_5 (w : World) : ActOk w 5 151 #[] := by
  intro W lo hi a ca b cb vs zs x y _ h hv4 hz6 hgv hgz hx hy
  obtain ⟨pa, rfl, hp⟩ := nat_of (hx (by decide))
  obtain ⟨pb, rfl, hq⟩ := nat_of (hy (by decide))
  exact implDoNext h hp hq hgv
theorem actOk_6 (w : World) : ActOk w 6 152 #[] := by
  intro W lo hi a ca b cb vs zs x y _ h hv4 hz6 hgv hgz hx hy
  obtain ⟨pa, rfl, hp⟩ := nat_of (hx (by decide))
  exact implDoCut y h hp hgv
theorem actOk_7 (w : World) : ActOk w 7 153 #[] := by
  intro W lo hi a ca b cb vs zs x y _ h hv4 hz6 hgv hgz hx hy
  obtain ⟨pa, rfl, hp⟩ := nat_of (hx (by decide))
  obtain ⟨pb, rfl, hq⟩ := nat_of (hy (by decide))
  exact implDoLink h hp hq hgv hz6
theorem actOk_8 (w : World) : ActOk w 8 154 #[] := by
  intro W lo hi a ca b cb vs zs x y _ h hv4 hz6 hgv hgz hx hy
  obtain ⟨pa, rfl, hp⟩ := nat_of (hx (by decide))
  exact implDoFree y h hp hv4 hz6 hgv hgz
theorem actOk_9 {w : World} {c d : Nat} (hc : CondAt w c d 156 true) : ActOk w 9 165 #[.pointer (some ⟨c, 0, none⟩), .pointer (some ⟨d, 0, none⟩)] := by
  intro W lo hi a ca b cb vs zs x y hb h hv4 hz6 hgv hgz hx hy
  obtain ⟨pa, rfl, hp⟩ := nat_of (hx (by decide))
  have hc' : CondAt W c d 156 true := ⟨(hb.cell (p := ⟨c, 0, none⟩) hc.lq).trans hc.q, (hb.cell (p := ⟨d, 0, none⟩) hc.lt).trans hc.t, Nat.lt_of_lt_of_le hc.lq hb.size, Nat.lt_of_lt_of_le hc.lt hb.size⟩
  have hh := implTestNull (pa : Int) y h hc' (r := decide (vs.getD pa (-1) = -1)) (fun W hW => implIsNull y hW hp)
  have e : doS 9 (pa : Int).toNat y.toNat vs zs = if decide (vs.getD pa (-1) = -1) = true then (0, vs, zs) else badC 1 := by
    simp [doS]
  rw [e]
  exact hh
theorem actOk_10 {w : World} {c d : Nat} (hc : CondAt w c d 156 false) : ActOk w 10 165 #[.pointer (some ⟨c, 0, none⟩), .pointer (some ⟨d, 0, none⟩)] := by
  intro W lo hi a ca b cb vs zs x y hb h hv4 hz6 hgv hgz hx hy
  obtain ⟨pa, rfl, hp⟩ := nat_of (hx (by decide))
  have hc' : CondAt W c d 156 false := ⟨(hb.cell (p := ⟨c, 0, none⟩) hc.lq).trans hc.q, (hb.cell (p := ⟨d, 0, none⟩) hc.lt).trans hc.t, Nat.lt_of_lt_of_le hc.lq hb.size, Nat.lt_of_lt_of_le hc.lt hb.size⟩
  have hh := implTestNull (pa : Int) y h hc' (r := decide (vs.getD pa (-1) = -1)) (fun W hW => implIsNull y hW hp)
  have e : doS 10 (pa : Int).toNat y.toNat vs zs = if decide (vs.getD pa (-1) = -1) = false then (0, vs, zs) else badC 1 := by
    simp [doS]
  rw [e]
  exact hh
theorem actOk_11 {w : World} {c d : Nat} (hc : CondAt w c d 157 true) : ActOk w 11 165 #[.pointer (some ⟨c, 0, none⟩), .pointer (some ⟨d, 0, none⟩)] := by
  intro W lo hi a ca b cb vs zs x y hb h hv4 hz6 hgv hgz hx hy
  obtain ⟨pa, rfl, hp⟩ := nat_of (hx (by decide))
  obtain ⟨pb, rfl, hq⟩ := nat_of (hy (by decide))
  have hc' : CondAt W c d 157 true := ⟨(hb.cell (p := ⟨c, 0, none⟩) hc.lq).trans hc.q, (hb.cell (p := ⟨d, 0, none⟩) hc.lt).trans hc.t, Nat.lt_of_lt_of_le hc.lq hb.size, Nat.lt_of_lt_of_le hc.lt hb.size⟩
  have hh := implTestSame (pa : Int) (pb : Int) h hc' (r := decide (vs.getD pa (-1) = vs.getD pb (-1))) (fun W hW => implAreSame hW hp hq)
  have e : doS 11 (pa : Int).toNat (pb : Int).toNat vs zs = if decide (vs.getD pa (-1) = vs.getD pb (-1)) = true then (0, vs, zs) else badC 1 := by
    simp [doS]
  rw [e]
  exact hh
theorem actOk_12 {w : World} {c d : Nat} (hc : CondAt w c d 157 false) : ActOk w 12 165 #[.pointer (some ⟨c, 0, none⟩), .pointer (some ⟨d, 0, none⟩)] := by
  intro W lo hi a ca b cb vs zs x y hb h hv4 hz6 hgv hgz hx hy
  obtain ⟨pa, rfl, hp⟩ := nat_of (hx (by decide))
  obtain ⟨pb, rfl, hq⟩ := nat_of (hy (by decide))
  have hc' : CondAt W c d 157 false := ⟨(hb.cell (p := ⟨c, 0, none⟩) hc.lq).trans hc.q, (hb.cell (p := ⟨d, 0, none⟩) hc.lt).trans hc.t, Nat.lt_of_lt_of_le hc.lq hb.size, Nat.lt_of_lt_of_le hc.lt hb.size⟩
  have hh := implTestSame (pa : Int) (pb : Int) h hc' (r := decide (vs.getD pa (-1) = vs.getD pb (-1))) (fun W hW => implAreSame hW hp hq)
  have e : doS 12 (pa : Int).toNat (pb : Int).toNat vs zs = if decide (vs.getD pa (-1) = vs.getD pb (-1)) = false then (0, vs, zs) else badC 1 := by
    simp [doS]
  rw [e]
  exact hh

def OnIf (f : FuncId) (t : Bool) (w : World) (e : Ending) (w' : World) : Prop :=
  e = .returned (.func (.func 165) #[] #[.pointer (some ⟨w.heap.size, 0, none⟩), .pointer (some ⟨w.heap.size + 1, 0, none⟩)]) ∧ CondAt w' w.heap.size (w.heap.size + 1) f t ∧ Below w.heap.size w w'
theorem implGoOnIf (f : FuncId) (t : Bool) (w : World) : Calls Tryz.prog 155 #[.func (.func f) #[] #[], .bool t] w (OnIf f t w) := by
  have hmf : ∀ (fn : Fn) (first cap : Array Value) (w : World), (Instr.makeFunc fn first cap).run Tryz.prog w = .ok (.func fn first cap) w := fun _ _ _ _ => rfl
  go_enter Tryz.func155, Tryz.ntmps155
  go_wp2
  go_ret
  exact ⟨rfl, ⟨by simp [go_sem], by simp [go_sem], by simp; omega, by simp⟩, two_below _ _ _⟩
theorem CondAt.keeps {w w' : World} {c d : Nat} {f : FuncId} {t : Bool} (h : CondAt w c d f t) (hb : Below w.heap.size w w') : CondAt w' c d f t :=
  ⟨(hb.cell (p := ⟨c, 0, none⟩) h.lq).trans h.q, (hb.cell (p := ⟨d, 0, none⟩) h.lt).trans h.t, Nat.lt_of_lt_of_le h.lq hb.size, Nat.lt_of_lt_of_le h.lt hb.size⟩
set_option maxRecDepth 100000 in
set_option maxHeartbeats 3200000 in
theorem implActionOf (k : Int) (hk : 1 ≤ k ∧ k ≤ 12) (w : World) : Calls Tryz.prog 134 #[.int .i64 k] w (ActionEnd k w) := by
  have hsf := fun (fn : Fn) (a : Addr) (c : Array Value) (w : World) => run_store Tryz.prog w a (.func fn #[] c) .plain rfl
  have hsn := fun (a : Addr) (w : World) => run_store Tryz.prog w a .nilFunc .plain rfl
  go_enter Tryz.func134, Tryz.ntmps134
  go_wp2_with fail
  refine (implGoOnIf 156 true _).mono ?_
  rintro e w1 ⟨rfl, h1, hb1⟩
  go_wp2_with fail
  refine (implGoOnIf 156 false _).mono ?_
  rintro e w2 ⟨rfl, h2, hb2⟩
  go_wp2_with fail
  refine (implGoOnIf 157 true _).mono ?_
  rintro e w3 ⟨rfl, h3, hb3⟩
  go_wp2_with fail
  refine (implGoOnIf 157 false _).mono ?_
  rintro e w4 ⟨rfl, h4, hb4⟩
  have hb34 := hb3.trans (hb4.mono hb3.size)
  have hb24 := hb2.trans (hb34.mono hb2.size)
  have hb := hb1.trans (hb24.mono hb1.size)
  replace h1 := h1.keeps hb24
  replace h2 := h2.keeps hb34
  replace h3 := h3.keeps hb4
  generalize hs0 : w.heap.size = s0 at *
  generalize w1.heap.size = s1 at *
  generalize w2.heap.size = s2 at *
  generalize w3.heap.size = s3 at *
  clear hb1 hb2 hb3 hb4 hb24 hb34
  have hB : ∀ o, Below s0 w (w4.alloc o) := fun o => hb.alloc (hs0 ▸ hb.size) o
  have hC : ∀ o, Below w4.heap.size w4 (w4.alloc o) := fun o => (Below.refl _ _).alloc (Nat.le_refl _) o
  have HB := Lib.hid hB
  have HC := Lib.hid hC
  clear hB hC hb
  rcases kinds hk with rfl | rfl | rfl | rfl | rfl | rfl | rfl | rfl | rfl | rfl | rfl | rfl
  case' inl => have HA := fun o => Lib.hid (actOk_1 (w4.alloc o)); have HE := Lib.hid (fun args W => Go.MuLone.run_callFunc_enter (P := Tryz.prog) Tryz.func147 (by kernel_rfl) rfl args W)
  case' inr.inl => have HA := fun o => Lib.hid (actOk_2 (w4.alloc o)); have HE := Lib.hid (fun args W => Go.MuLone.run_callFunc_enter (P := Tryz.prog) Tryz.func148 (by kernel_rfl) rfl args W)
  case' inr.inr.inl => have HA := fun o => Lib.hid (actOk_3 (w4.alloc o)); have HE := Lib.hid (fun args W => Go.MuLone.run_callFunc_enter (P := Tryz.prog) Tryz.func149 (by kernel_rfl) rfl args W)
  case' inr.inr.inr.inl => have HA := fun o => Lib.hid (actOk_4 (w4.alloc o)); have HE := Lib.hid (fun args W => Go.MuLone.run_callFunc_enter (P := Tryz.prog) Tryz.func150 (by kernel_rfl) rfl args W)
  case' inr.inr.inr.inr.inl => have HA := fun o => Lib.hid (actOk_5 (w4.alloc o)); have HE := Lib.hid (fun args W => Go.MuLone.run_callFunc_enter (P := Tryz.prog) Tryz.func151 (by kernel_rfl) rfl args W)
  case' inr.inr.inr.inr.inr.inl => have HA := fun o => Lib.hid (actOk_6 (w4.alloc o)); have HE := Lib.hid (fun args W => Go.MuLone.run_callFunc_enter (P := Tryz.prog) Tryz.func152 (by kernel_rfl) rfl args W)
  case' inr.inr.inr.inr.inr.inr.inl => have HA := fun o => Lib.hid (actOk_7 (w4.alloc o)); have HE := Lib.hid (fun args W => Go.MuLone.run_callFunc_enter (P := Tryz.prog) Tryz.func153 (by kernel_rfl) rfl args W)
  case' inr.inr.inr.inr.inr.inr.inr.inl => have HA := fun o => Lib.hid (actOk_8 (w4.alloc o)); have HE := Lib.hid (fun args W => Go.MuLone.run_callFunc_enter (P := Tryz.prog) Tryz.func154 (by kernel_rfl) rfl args W)
  case' inr.inr.inr.inr.inr.inr.inr.inr.inl => have HA := fun o => Lib.hid (actOk_9 (h1.keeps (HC.out o))); have HE := Lib.hid (fun args W => Go.MuLone.run_callFunc_enter (P := Tryz.prog) Tryz.func165 (by kernel_rfl) rfl args W)
  case' inr.inr.inr.inr.inr.inr.inr.inr.inr.inl => have HA := fun o => Lib.hid (actOk_10 (h2.keeps (HC.out o))); have HE := Lib.hid (fun args W => Go.MuLone.run_callFunc_enter (P := Tryz.prog) Tryz.func165 (by kernel_rfl) rfl args W)
  case' inr.inr.inr.inr.inr.inr.inr.inr.inr.inr.inl => have HA := fun o => Lib.hid (actOk_11 (h3.keeps (HC.out o))); have HE := Lib.hid (fun args W => Go.MuLone.run_callFunc_enter (P := Tryz.prog) Tryz.func165 (by kernel_rfl) rfl args W)
  case' inr.inr.inr.inr.inr.inr.inr.inr.inr.inr.inr => have HA := fun o => Lib.hid (actOk_12 (h4.keeps (HC.out o))); have HE := Lib.hid (fun args W => Go.MuLone.run_callFunc_enter (P := Tryz.prog) Tryz.func165 (by kernel_rfl) rfl args W)
  all_goals
    clear h1 h2 h3 h4 HC hk
    go_wp2
    go_ret
    exact ⟨_, _, rfl, (HA _).out, hs0 ▸ HB.out _, HE.out⟩
end Go.Proofs.YtpmmjaceehlpiaaGreatDoor
