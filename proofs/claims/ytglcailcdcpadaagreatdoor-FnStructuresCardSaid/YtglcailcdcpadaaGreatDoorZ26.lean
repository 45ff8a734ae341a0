/-
  Several texts of one proof in one file, in the order in which they build.
-/
import Derived.Maps.AppendAt
import Derived.Laws.Slices
import Derived.Test.YtglcailcdcpadaaGreatDoorZ05
import Derived.Test.YtglcailcdcpadaaGreatDoorZ03
import Derived.Test.YtglcailcdcpadaaGreatDoorZ25
import Derived.Test.YtglcailcdcpadaaGreatDoorZ08
/-
  The model's lists of numbers from -1 on, in lexicographic order.
-/
namespace Go.Proofs.YtglcailcdcpadaaGreatDoor
open Go Go.RowKit Go.ChangeShapes Go.WideShapes Go.ChangeAt

/-- A list of numbers, and where it lies. -/
structure Lp where
  g : Nat
  c : Nat
  xs : List Int
def lpCells (x : Lp) : List Value := [.slice (some ⟨x.g, 0, none⟩) x.xs.length x.c]
theorem lpCells_length (x : Lp) : (lpCells x).length = 1 := rfl
abbrev lpVals (ls : List Lp) : List Value := fl lpCells ls
/-- It may be read, and lies from lo on. -/
structure Lp.At (lo : Nat) (W : World) (x : Lp) : Prop where
  row : Row W W.heap.size (some ⟨x.g, 0, none⟩) (intVals x.xs)
  lo : lo ≤ x.g
  lt : x.g < W.heap.size
theorem Lp.At.keep {lo : Nat} {W W' : World} {x : Lp} (h : x.At lo W) (hz : W.heap.size ≤ W'.heap.size) (hb : W'.heap[x.g]? = W.heap[x.g]?) : x.At lo W' := by
  refine ⟨fun k u hu => ?_, h.lo, Nat.lt_of_lt_of_le h.lt hz⟩
  obtain ⟨b, o, e, hl, hc⟩ := h.row k u hu
  injection e with e
  injection e with e1 e2 _
  subst e1 e2
  exact ⟨_, _, rfl, Nat.lt_of_lt_of_le hl hz, (World.cell?_of_block hb).trans hc⟩
theorem Lp.At.below {lo : Nat} {W W' : World} {x : Lp} (h : x.At lo W) (hb : Below W.heap.size W W') : x.At lo W' := h.keep hb.size (hb.block _ h.lt)
theorem Lp.At.mono {lo lo' : Nat} {W : World} {x : Lp} (h : x.At lo W) (hl : lo' ≤ lo) : x.At lo' W := ⟨h.row, Nat.le_trans hl h.lo, h.lt⟩
/-- A row of lists that may be read. -/
structure ListsAt (lo : Nat) (W : World) (g : Nat) (ls : List Lp) : Prop where
  row : Row W W.heap.size (some ⟨g, 0, none⟩) (lpVals ls)
  each : ∀ x ∈ ls, x.At lo W
  lo : lo ≤ g
  lt : g < W.heap.size
theorem ListsAt.keep {lo : Nat} {W W' : World} {g : Nat} {ls : List Lp} (h : ListsAt lo W g ls) (hz : W.heap.size ≤ W'.heap.size) (hb : ∀ k, lo ≤ k → k < W.heap.size → W'.heap[k]? = W.heap[k]?) : ListsAt lo W' g ls := by
  refine ⟨fun k u hu => ?_, fun x hx => (h.each x hx).keep hz (hb _ (h.each x hx).lo (h.each x hx).lt), h.lo, Nat.lt_of_lt_of_le h.lt hz⟩
  obtain ⟨b, o, e, hl, hc⟩ := h.row k u hu
  injection e with e
  injection e with e1 e2 _
  subst e1 e2
  exact ⟨_, _, rfl, Nat.lt_of_lt_of_le hl hz, (World.cell?_of_block (hb _ h.lo h.lt)).trans hc⟩
theorem ListsAt.item {lo : Nat} {W : World} {g : Nat} {ls : List Lp} (h : ListsAt lo W g ls) (k : Nat) (hk : k < ls.length) : W.cell? ⟨g, k, none⟩ = some (.slice (some ⟨ls[k].g, 0, none⟩) ls[k].xs.length ls[k].c) ∧ ls[k].At lo W := by
  obtain ⟨b, o, e, _, hc⟩ := Row.item lpCells_length (by omega) h.row k hk
  injection e with e
  injection e with e1 e2 _
  subst e1 e2
  have := hc 0 _ rfl
  simp only [Nat.zero_add, Nat.mul_one, Nat.add_zero] at this
  exact ⟨this, h.each _ (List.getElem_mem hk)⟩

/-- The lists: i first numbers done, and of the next one k lists. -/
def rowsS (less : List (List Int)) (i : Nat) : List (List Int) := (List.range i).flatMap fun (j : Nat) => less.map fun l => ((j : Int) - 1) :: l
theorem rowsS_next (less : List (List Int)) (i : Nat) : rowsS less (i + 1) = rowsS less i ++ less.map (fun l => ((i : Int) - 1) :: l) := by simp [rowsS, List.range_succ]
theorem rowsS_length (less : List (List Int)) (i : Nat) : (rowsS less i).length = i * less.length := by
  induction i with
  | zero => simp [rowsS]
  | succ i ih => rw [rowsS_next, List.length_append, ih, List.length_map, Nat.add_mul, Nat.one_mul]
def listsS (m : Nat) : Nat → List (List Int)
  | 0 => [[]]
  | n + 1 => rowsS (listsS m n) m
theorem listsS_length (m : Nat) : ∀ n, (listsS m n).length = m ^ n
  | 0 => rfl
  | n + 1 => by
    show (rowsS (listsS m n) m).length = _
    rw [rowsS_length, listsS_length m n, Nat.pow_succ, Nat.mul_comm]
theorem listsS_le {m n : Nat} (hm : m ≤ 4) (hn : n ≤ 4) : (listsS m n).length ≤ 256 := by
  rw [listsS_length]
  exact Nat.le_trans (Nat.pow_le_pow_left hm n) (Nat.le_trans (Nat.pow_le_pow_right (by omega) hn) (by decide))
theorem listsS_each {m : Nat} : ∀ {n : Nat} {l : List Int}, l ∈ listsS m n → l.length = n
  | 0, l, h => by simp [listsS] at h; simp [h]
  | n + 1, l, h => by
    obtain ⟨j, _, h⟩ := List.mem_flatMap.1 h
    obtain ⟨l', h', rfl⟩ := List.mem_map.1 h
    simp [listsS_each h']

def GaveLists (bs : List (List Int)) (w : World) (e : Ending) (w' : World) : Prop :=
  ∃ (g cap : Nat) (ls : List Lp), ls.map Lp.xs = bs ∧ e = .returned (.slice (some ⟨g, 0, none⟩) ls.length cap) ∧ ListsAt w.heap.size w' g ls ∧ Below w.heap.size w w'
theorem listInfo : (Tryz.prog.info? 25).map (fun i => (i.zero, i.size, i.bytes)) = some (some (.slice none 0 0), 1, 24) := by kernel_rfl
theorem numInfo9 : (Tryz.prog.info? 3).map (fun i => (i.zero, i.size, i.bytes)) = some (some (.int .i64 0), 1, 8) := by kernel_rfl
theorem own_lit {w : World} {base : Nat} {e : TypeId} (x : Value) (hb : base ≤ w.heap.size) : (w.alloc (.cells #[x] e)).ownsRow base e 1 (.slice (some ⟨w.heap.size, 0, none⟩) 1 1) 1 [x] :=
  ⟨by simp, .inr ⟨w.heap.size, 1, #[x], rfl, hb, heap_alloc_new w _, Nat.le_refl _, by decide, rfl, by simp⟩⟩
theorem lit_news (w : World) (x : Value) (t : TypeId) : ∀ j u, [x][j]? = some u → (w.alloc (.cells #[x] t)).cell? ((⟨w.heap.size, 0, none⟩ : Addr).add j) = some u := by
  intro j u hj
  match j, hj with
  | 0, hj =>
    simp at hj
    subst hj
    simp [Addr.add]
  | j + 1, hj => simp at hj
theorem own_row {W : World} {base e n c g : Nat} {xs : List Value} (h : W.ownsRow base e 1 (.slice (some ⟨g, 0, none⟩) n c) n xs) : Row W W.heap.size (some ⟨g, 0, none⟩) xs := fun k u hu =>
  ⟨g, 0, rfl, (h.lt g rfl).2, by have := h.cells (g := g) rfl k u hu; rwa [add_plain] at this⟩
theorem own_some {W : World} {base e size n g : Nat} {v : Value} {xs : List Value} (h : W.ownsRow base e size v n xs) (hg : v.ownBlock = some g) : ∃ c, v = .slice (some ⟨g, 0, none⟩) n c := by
  rcases h.2 with ⟨rfl, _⟩ | ⟨k, cap, cur, rfl, _⟩
  · cases hg
  · exact ⟨cap, by cases hg; rfl⟩
theorem loc_some {W : World} {base e size n B S : Nat} {v : Value} {xs : List Value} (h : W.ownsRow base e size v n xs) (hl : v.ownBlock = some B ∨ v.ownBlock = some S) : ∃ G c, v = .slice (some ⟨G, 0, none⟩) n c ∧ (G = B ∨ G = S) := by
  rcases hl with hl | hl
  · obtain ⟨c, rfl⟩ := own_some h hl
    exact ⟨B, c, rfl, .inl rfl⟩
  · obtain ⟨c, rfl⟩ := own_some h hl
    exact ⟨S, c, rfl, .inr rfl⟩
theorem lit_one (a : Option Addr) (n c : Nat) : ∀ u ∈ [Value.slice a n c], u.oneCell' = true := by
  intro u hu
  rw [List.mem_singleton.1 hu]
  rfl
theorem intVals_ones (l : List Int) : ∀ u ∈ intVals l, u.oneCell' = true := by
  intro u hu
  obtain ⟨x, _, rfl⟩ := List.mem_map.1 hu
  rfl
/-- What has been collected: w: the world at the start, w1: that in which the shorter lists lie. -/
def Out (w w1 : World) (bs : List (List Int)) (v : Value) (wr : World) : Prop :=
  ∃ os : List Lp, os.map Lp.xs = bs ∧ wr.ownsRow w.heap.size 25 1 v os.length (lpVals os) ∧ (∀ x ∈ os, x.At w1.heap.size wr ∧ v.ownBlock ≠ some x.g) ∧ (∃ k, v.ownBlock = some k ∧ (k = w.heap.size ∨ w1.heap.size ≤ k)) ∧ Only (fun k => k = w.heap.size) w1 wr
theorem out_start {w w1 wr : World} {bs : List (List Int)} {v : Value} (less : List (List Int)) (f : List Int → List Int) (h : Out w w1 bs v wr) : Out w w1 (bs ++ (less.take 0).map f) v wr := by simpa using h
theorem out_full {w w1 wr : World} {bs less : List (List Int)} {v : Value} {j i : Nat} (hj : j = less.length) (hb : bs = rowsS less i) (h : Out w w1 (bs ++ (less.take j).map (fun l => ((i : Int) - 1) :: l)) v wr) : Out w w1 (rowsS less (i + 1)) v wr := by
  rw [rowsS_next, ← hb]
  rw [hj, List.take_length] at h
  exact h
/-- One list more. -/
theorem out_next {w w1 wr w' : World} {bs less : List (List Int)} {v v' : Value} {j : Nat} {f : List Int → List Int} {G c : Nat} {os : List Lp} {kb : Nat} (hj : j < less.length) (hos' : os.map Lp.xs = bs ++ (less.take j).map f) (ho : wr.ownsRow w.heap.size 25 1 v os.length (lpVals os)) (hx : ∀ x ∈ os, x.At w1.heap.size wr ∧ v.ownBlock ≠ some x.g) (hk : v.ownBlock = some kb) (hk2 : kb = w.heap.size ∨ w1.heap.size ≤ kb) (hon : Only (fun k => k = w.heap.size) w1 wr) (hz : wr.heap.size ≤ w'.heap.size)
    (hb : ∀ k, k < wr.heap.size → v.ownBlock ≠ some k → w'.heap[k]? = wr.heap[k]?) (hos : w'.os = wr.os) (htp : w'.tape = wr.tape) (hout : w'.output = wr.output) (hG : wr.heap.size ≤ G) (hGn : v'.ownBlock ≠ some G) (hrow : Row w' w'.heap.size (some ⟨G, 0, none⟩) (intVals (f less[j]))) (hGl : G < w'.heap.size)
    (hv : v'.ownBlock = v.ownBlock ∨ ∃ k, v'.ownBlock = some k ∧ wr.heap.size ≤ k) (_hw1 : w.heap.size < w1.heap.size)
    (hown : w'.ownsRow w.heap.size 25 1 v' (os.length + 1) (lpVals os ++ [.slice (some ⟨G, 0, none⟩) (f less[j]).length c])) :
    Out w w1 (bs ++ (less.take (j + 1)).map f) v' w' := by
  refine ⟨os ++ [⟨G, c, f less[j]⟩], ?_, ?_, ?_, ?_, ⟨hos.trans hon.os, htp.trans hon.tape, hout.trans hon.output, Nat.le_trans hon.size hz, fun q hq hqn => (hb q (Nat.lt_of_lt_of_le hq hon.size) ?_).trans (hon.block q hq hqn)⟩⟩
  · rw [List.map_append, hos', take_next less j hj, List.map_append, List.append_assoc]
    rfl
  · rw [List.length_append]
    show w'.ownsRow _ _ 1 v' (os.length + 1) _
    rw [show lpVals (os ++ [⟨G, c, f less[j]⟩]) = lpVals os ++ lpVals [⟨G, c, f less[j]⟩] from fl_append os _]
    exact hown
  · intro x hx'
    have hlt := (ho.lt kb hk).2
    rcases List.mem_append.1 hx' with hx' | hx'
    · obtain ⟨hat, hne⟩ := hx x hx'
      refine ⟨hat.keep hz (hb _ hat.lt hne), ?_⟩
      rcases hv with hv | ⟨q, hv, hq⟩
      · rw [hv]
        exact hne
      · rw [hv]
        intro e
        have := Option.some.inj e
        have := hat.lt
        omega
    · rw [List.mem_singleton.1 hx']
      exact ⟨⟨hrow, Nat.le_trans hon.size hG, hGl⟩, hGn⟩
  · rcases hv with hv | ⟨q, hv, hq⟩
    · exact ⟨kb, hv.trans hk, hk2⟩
    · exact ⟨q, hv, .inr (Nat.le_trans hon.size hq)⟩
  · rw [hk]
    intro e
    have := Option.some.inj e
    omega
end Go.Proofs.YtglcailcdcpadaaGreatDoor
/-
  Cuts of rows of one's own: up to an element, from one on.
-/
namespace Go.Proofs.YtglcailcdcpadaaGreatDoor
open Go Go.RowKit Go.ChangeAt Go.ChangeShapes Go.WideShapes

section
variable {W W' : World} {B e n m g cap : Nat} {xs : List Value} {v : Value}
theorem own_real {s : Nat} (h : W.ownsRow B e s v n xs) (hne : v ≠ .slice none 0 0) : ∃ g c, v = .slice (some ⟨g, 0, none⟩) n c ∧ n ≤ c ∧ B ≤ g ∧ g < W.heap.size := by
  rcases h.2 with ⟨hv, _⟩ | ⟨g, cap, cur, rfl, hb, _, hc, _⟩
  · exact absurd hv hne
  · exact ⟨g, cap, rfl, hc, hb, (h.lt g rfl).2⟩
theorem own_cap {s : Nat} (h : W.ownsRow B e s (.slice (some ⟨g, 0, none⟩) n cap) n xs) : n ≤ cap := by
  rcases h.2 with ⟨hv, _⟩ | ⟨g', cap', cur, hv, _, _, hc, _⟩
  · simp at hv
  · simp only [Value.slice.injEq, Option.some.injEq, Addr.mk.injEq, and_true, true_and] at hv
    omega
/-- Up to an element: the cells stay one's own. -/
theorem own_cut (h : W.ownsRow B e 1 (.slice (some ⟨g, 0, none⟩) n cap) n xs) (hm : m ≤ n) : W.ownsRow B e 1 (.slice (some ⟨g, 0, none⟩) m cap) m (xs.take m) := by
  have hl := h.1
  rw [Nat.mul_one] at hl
  rcases h.2 with ⟨hv, _⟩ | ⟨g', cap', cur, hv, hb, hg, h1, h2, h3, h4⟩
  · simp at hv
  · simp only [Value.slice.injEq, Option.some.injEq, Addr.mk.injEq, and_true, true_and] at hv
    obtain ⟨rfl, rfl⟩ := hv
    refine ⟨by simp; omega, .inr ⟨g, cap, cur, rfl, hb, hg, by omega, h2, h3, ?_⟩⟩
    rw [← h4, List.take_take, Nat.mul_one, Nat.mul_one, Nat.min_eq_left hm]
/-- From an element on: the cells. -/
theorem cut_news (h : W.ownsRow B e 1 (.slice (some ⟨g, 0, none⟩) n cap) n xs) : ∀ j u, (xs.drop m)[j]? = some u → W.cell? ((⟨g, if cap = m then 0 else m, none⟩ : Addr).add j) = some u := by
  intro j u hu
  rw [List.getElem?_drop] at hu
  have hl := h.1
  have hlt := (List.getElem?_eq_some_iff.1 hu).1
  have hc := own_cap h
  rw [if_neg (by omega), add_plain]
  have := h.cells (g := g) rfl (m + j) u hu
  rw [add_plain, Nat.zero_add] at this
  exact this
theorem run_head {P : Program} (t el : TypeId) (ht : P.underlying t = some (.slice el)) (he : P.elem t = el) (hs : ∀ V, (sizeOf el).run P V = .ok 1 V) (V : World) (g n cap m : Nat) (h : m ≤ cap) :
    (Instr.slice t (.slice (some ⟨g, 0, none⟩) n cap) none (some (.int .i64 (m : Int))) none).run P V = .ok (.slice (some ⟨g, 0, none⟩) m cap) V := by
  rw [run_slice_h (P := P) (w := V) t (some ⟨g, 0, none⟩) n cap (by rw [he]; exact ht) .i64 (m : Int) (by omega) (by omega), he, hs V]
  show Result.ok (sliced (some ⟨g, 0, none⟩) 0 ((m : Int).toNat) cap 1) V = _
  unfold sliced
  rw [show ((m : Int)).toNat = m from by omega]
  split <;> simp [Addr.add]
theorem run_tail {P : Program} (t el : TypeId) (ht : P.underlying t = some (.slice el)) (he : P.elem t = el) (hs : ∀ V, (sizeOf el).run P V = .ok 1 V) (V : World) (g n cap m : Nat) (h : m ≤ n) :
    (Instr.slice t (.slice (some ⟨g, 0, none⟩) n cap) (some (.int .i64 (m : Int))) none none).run P V = .ok (.slice (some ⟨g, if cap = m then 0 else m, none⟩) (n - m) (cap - m)) V := by
  rw [run_slice_l (P := P) (w := V) t (some ⟨g, 0, none⟩) n cap (by rw [he]; exact ht) .i64 (m : Int) (by omega) (by omega), he, hs V]
  show Result.ok (sliced (some ⟨g, 0, none⟩) ((m : Int).toNat) n cap 1) V = _
  unfold sliced
  rw [show ((m : Int)).toNat = m from by omega]
  by_cases hc : cap = m
  · rw [if_pos hc, if_pos hc]
  · rw [if_neg hc, if_neg hc]
    simp [Addr.add]
    exact Eq.symm
theorem own_only {s c : Nat} {S : Nat → Prop} (h : W.ownsRow B e s (.slice (some ⟨g, 0, none⟩) n c) n xs) (hO : Only S W W') (hn : ¬ S g) : W'.ownsRow B e s (.slice (some ⟨g, 0, none⟩) n c) n xs := by
  have hlt := h.lt g rfl
  refine ⟨h.1, h.2.imp id ?_⟩
  rintro ⟨g', cap, cur, hv, hb, hgc, r⟩
  simp only [Value.slice.injEq, Option.some.injEq, Addr.mk.injEq, and_true, true_and] at hv
  obtain ⟨rfl, rfl⟩ := hv
  exact ⟨g, c, cur, rfl, hb, (hO.block g hlt.2 hn).trans hgc, r⟩
end
end Go.Proofs.YtglcailcdcpadaaGreatDoor
/-
  The rows of names and of groups that the model keeps: where they lie, and one node more among them.
-/
namespace Go.Proofs.YtglcailcdcpadaaGreatDoor
open Go Go.RowKit Go.ChangeAt Go.ChangeShapes Go.WideShapes

abbrev namesV (L : List Grp) : List Value := strVals (L.map Prod.fst)
structure Gs (B : Nat) (L : List Grp) (gn cn go co : Nat) (ls : List Lp) (W : World) : Prop where
  n : W.ownsRow B 9 1 (.slice (some ⟨gn, 0, none⟩) L.length cn) L.length (namesV L)
  o : W.ownsRow B 25 1 (.slice (some ⟨go, 0, none⟩) L.length co) L.length (lpVals ls)
  xs : ls.map Lp.xs = L.map Prod.snd
  each : ∀ x ∈ ls, W.ownsRow B 3 1 (.slice (some ⟨x.g, 0, none⟩) x.xs.length x.c) x.xs.length (intVals x.xs)
  nd : (gn :: go :: ls.map Lp.g).Nodup
theorem lpVals_length (ls : List Lp) : (lpVals ls).length = ls.length := by rw [lpVals, fl_length lpCells_length, Nat.mul_one]
theorem lpVals_take (ls : List Lp) (k : Nat) : (lpVals ls).take k = lpVals (ls.take k) := by
  have := fl_take lpCells_length ls k
  rwa [Nat.mul_one] at this
theorem lpVals_at (ls : List Lp) (k : Nat) (h : k < ls.length) : (lpVals ls)[k]? = some (.slice (some ⟨ls[k].g, 0, none⟩) ls[k].xs.length ls[k].c) := by
  have := fl_at lpCells_length ls k h 0 (by omega)
  rwa [Nat.mul_one, Nat.add_zero] at this
theorem lpVals_append (ls ks : List Lp) : lpVals (ls ++ ks) = lpVals ls ++ lpVals ks := fl_append ls ks
theorem lpVals_drop (ls : List Lp) (k : Nat) : (lpVals ls).drop k = lpVals (ls.drop k) := by
  have h1 : lpVals ls = lpVals (ls.take k) ++ lpVals (ls.drop k) := by rw [← lpVals_append, List.take_append_drop]
  have h2 : (lpVals (ls.take k)).length = min k ls.length := by rw [lpVals_length, List.length_take]
  by_cases hk : k ≤ ls.length
  · rw [h1, List.drop_append_of_le_length (by rw [h2]; omega), List.drop_of_length_le (by rw [h2]; omega), List.nil_append]
  · rw [List.drop_of_length_le (by rw [lpVals_length]; omega), List.drop_of_length_le (by omega)]
    rfl
theorem lpVals_set (ls : List Lp) (k : Nat) (y : Lp) : (lpVals ls).set k (.slice (some ⟨y.g, 0, none⟩) y.xs.length y.c) = lpVals (ls.set k y) := by
  apply List.ext_getElem?
  intro j
  by_cases hj : j < ls.length
  · rw [lpVals_at (ls.set k y) j (by simpa using hj), List.getElem?_set]
    by_cases hk : k = j
    · subst hk
      simp [lpVals_length, hj]
    · rw [if_neg hk, lpVals_at ls j hj, List.getElem_set_ne (by omega)]
  · rw [List.getElem?_eq_none (by rw [List.length_set, lpVals_length]; omega), List.getElem?_eq_none (by rw [lpVals_length, List.length_set]; omega)]
section
variable {B gn cn go co : Nat} {L : List Grp} {ls : List Lp} {W W' : World}
theorem Gs.len (h : Gs B L gn cn go co ls W) : ls.length = L.length := by have := congrArg List.length h.xs; simpa using this
theorem Gs.below (h : Gs B L gn cn go co ls W) (hb : Below W.heap.size W W') : Gs B L gn cn go co ls W' :=
  ⟨own_keeps h.n hb, own_keeps h.o hb, h.xs, fun x hx => own_keeps (h.each x hx) hb, h.nd⟩
theorem Gs.lt (h : Gs B L gn cn go co ls W) : ∀ k ∈ gn :: go :: ls.map Lp.g, B ≤ k ∧ k < W.heap.size := by
  intro k hk
  simp only [List.mem_cons, List.mem_map] at hk
  rcases hk with rfl | rfl | ⟨x, hx, rfl⟩
  · exact h.n.lt _ rfl
  · exact h.o.lt _ rfl
  · exact (h.each x hx).lt _ rfl
theorem Gs.nil {gn go : Nat} (h1 : W.heap[gn]? = some (.cells #[] 9 (0, 0))) (h2 : W.heap[go]? = some (.cells #[] 25 (0, 0))) (hb1 : B ≤ gn) (hb2 : B ≤ go) (hne : gn ≠ go) : Gs B [] gn 0 go 0 [] W :=
  ⟨empty_own h1 hb1, empty_own h2 hb2, rfl, fun x hx => by simp at hx, by simp [hne]⟩
/-- A row is kept where another block turns. -/
theorem own_apart {e size n g c k : Nat} {xs : List Value} (h : W.ownsRow B e size (.slice (some ⟨g, 0, none⟩) n c) n xs) (hg : W.grownBy W' (some k)) (hne : g ≠ k) : W'.ownsRow B e size (.slice (some ⟨g, 0, none⟩) n c) n xs :=
  own_other h hg fun j hj e => hne (by have h1 : g = j := Option.some.inj hj; have h2 := Option.some.inj e; omega)
theorem nodup_mid {l1 l2 : List Nat} {a b c : Nat} : (a :: b :: (l1 ++ c :: l2)).Nodup ↔ c ∉ a :: b :: (l1 ++ l2) ∧ (a :: b :: (l1 ++ l2)).Nodup := by
  have h : (a :: b :: (l1 ++ c :: l2)).Perm (c :: a :: b :: (l1 ++ l2)) :=
    ((List.perm_middle.cons b).cons a).trans (((List.Perm.swap c b _).cons a).trans (List.Perm.swap c a _))
  rw [h.nodup_iff, List.nodup_cons]
/-- A node joins a group: its row is appended to, and stored. -/
theorem Gs.meet {L1 L2 : List Grp} {l1 l2 : List Lp} {x : Lp} {nm : ByteArray} {s : List Int} (h : Gs B (L1 ++ (nm, s) :: L2) gn cn go co (l1 ++ x :: l2) W) (hl : l1.length = L1.length) {g' c' : Nat} {i : Int}
    (hown : W'.ownsRow B 3 1 (.slice (some ⟨g', 0, none⟩) (x.xs.length + 1) c') (x.xs.length + 1) (intVals x.xs ++ [.int .i64 i])) (hg : W.grownBy W' (some x.g)) (hat : x.g = g' ∨ g' = W.heap.size) :
    x.xs = s ∧ Gs B (L1 ++ (nm, s ++ [i]) :: L2) gn cn go co (l1 ++ ⟨g', c', x.xs ++ [i]⟩ :: l2) (W'.setCell ⟨go, L1.length, none⟩ (.slice (some ⟨g', 0, none⟩) (x.xs.length + 1) c')) := by
  have hlt := h.lt
  have hnd := h.nd
  rw [List.map_append, List.map_cons] at hnd hlt
  obtain ⟨hx, hR⟩ := nodup_mid.1 hnd
  have hxs := h.xs
  rw [List.map_append, List.map_cons, List.map_append, List.map_cons] at hxs
  obtain ⟨e1, e2⟩ := List.append_inj hxs (by simpa using hl)
  simp only [List.cons.injEq] at e2
  obtain ⟨e2, e3⟩ := e2
  have e2 : x.xs = s := e2
  refine ⟨e2, ?_⟩
  have hg' : g' ∉ gn :: go :: (l1.map Lp.g ++ l2.map Lp.g) := by
    rcases hat with e | e
    · rw [← e]; exact hx
    · intro hm
      have := (hlt g' (by simp only [List.mem_cons, List.mem_append] at hm ⊢; rcases hm with h | h | h | h <;> simp [h])).2
      omega
  have hno : gn ≠ go := by
    intro e
    rw [List.nodup_cons] at hR
    exact hR.1 (by rw [e]; simp)
  have hne1 : gn ≠ x.g := fun e => hx (by rw [← e]; simp)
  have hne2 : go ≠ x.g := fun e => hx (by rw [← e]; simp)
  have hgo : g' ≠ go := fun e => hg' (by rw [e]; simp)
  have n1 := own_apart h.n hg hne1
  have o1 := own_apart h.o hg hne2
  have hs := grown_cell (grown_self W' (some go)) (i := L1.length) (u := .slice (some ⟨g', 0, none⟩) (x.xs.length + 1) c')
  have hlen : (L1 ++ (nm, s ++ [i]) :: L2).length = (L1 ++ (nm, s) :: L2).length := by simp
  have hes : (x.xs ++ [i]).length = x.xs.length + 1 := by simp
  have hem : intVals (x.xs ++ [i]) = intVals x.xs ++ [.int .i64 i] := intVals_snoc _ _
  have hold : ∀ y ∈ l1 ++ l2, W.ownsRow B 3 1 (.slice (some ⟨y.g, 0, none⟩) y.xs.length y.c) y.xs.length (intVals y.xs) ∧ y.g ≠ x.g ∧ y.g ≠ go := by
    intro y hy
    refine ⟨h.each y (by simp only [List.mem_append, List.mem_cons] at hy ⊢; rcases hy with h | h <;> simp [h]), fun e => hx ?_, fun e => ?_⟩
    · rw [← e, ← List.map_append]
      simp only [List.mem_cons]
      exact .inr (.inr (List.mem_map_of_mem hy))
    · rw [List.nodup_cons, List.nodup_cons] at hR
      refine hR.2.1 ?_
      rw [← e, ← List.map_append]
      exact List.mem_map_of_mem hy
  refine ⟨?_, ?_, ?_, ?_, ?_⟩
  · rw [hlen, show namesV (L1 ++ (nm, s ++ [i]) :: L2) = namesV (L1 ++ (nm, s) :: L2) from by simp [namesV]]
    exact own_apart n1 hs hno
  · rw [hlen]
    have := (o1.stored L1.length (.slice (some ⟨g', 0, none⟩) (x.xs.length + 1) c')).1
    have e : (lpVals (l1 ++ x :: l2)).set L1.length (.slice (some ⟨g', 0, none⟩) (x.xs.length + 1) c') = lpVals (l1 ++ ⟨g', c', x.xs ++ [i]⟩ :: l2) := by
      rw [← hl, lpVals_append, lpVals_append, List.set_append_right _ _ (by rw [lpVals_length]; exact Nat.le_refl _), lpVals_length, Nat.sub_self]
      show _ ++ (_ :: lpVals l2).set 0 _ = _ ++ _ :: lpVals l2
      rw [List.set_cons_zero]
      simp only [hes]
    rw [← e]
    exact this
  · rw [List.map_append, List.map_cons, List.map_append, List.map_cons, e1, e3]
    show _ ++ (x.xs ++ [i]) :: _ = _ ++ (s ++ [i]) :: _
    rw [e2]
  · intro y hy
    simp only [List.mem_append, List.mem_cons] at hy
    rcases hy with hy | rfl | hy
    · obtain ⟨h1, h2, h3⟩ := hold y (by simp [hy])
      exact own_apart (own_apart h1 hg h2) hs h3
    · show (W'.setCell _ _).ownsRow B _ 1 (.slice (some ⟨g', 0, none⟩) (x.xs ++ [i]).length c') (x.xs ++ [i]).length (intVals (x.xs ++ [i]))
      rw [hes, hem]
      exact own_apart hown hs hgo
    · obtain ⟨h1, h2, h3⟩ := hold y (by simp [hy])
      exact own_apart (own_apart h1 hg h2) hs h3
  · rw [List.map_append, List.map_cons]
    exact nodup_mid.2 ⟨hg', hR⟩
/-- A group more: a row of names and one of groups, each with one element more. -/
theorem Gs.put {L1 L2 : List Grp} {l1 l2 : List Lp} {nm : ByteArray} {i : Int} (h : Gs B (L1 ++ L2) gn cn go co (l1 ++ l2) W) (hl : l1.length = L1.length) (hw : ∀ y ∈ l1 ++ l2, W'.ownsRow B 3 1 (.slice (some ⟨y.g, 0, none⟩) y.xs.length y.c) y.xs.length (intVals y.xs))
    {gn' cn' go' co' X c : Nat} (hn : W'.ownsRow B 9 1 (.slice (some ⟨gn', 0, none⟩) ((L1 ++ L2).length + 1) cn') ((L1 ++ L2).length + 1) (strVals (L1.map Prod.fst) ++ [.string nm] ++ strVals (L2.map Prod.fst)))
    (ho : W'.ownsRow B 25 1 (.slice (some ⟨go', 0, none⟩) ((L1 ++ L2).length + 1) co') ((L1 ++ L2).length + 1) (lpVals l1 ++ [.slice (some ⟨X, 0, none⟩) 1 c] ++ lpVals l2))
    (hx : W'.ownsRow B 3 1 (.slice (some ⟨X, 0, none⟩) 1 c) 1 [.int .i64 i]) (hgn : gn' = gn ∨ W.heap.size ≤ gn') (hgo : go' = go ∨ W.heap.size ≤ go') (hX : W.heap.size ≤ X) (h1 : gn' ≠ go') (h2 : X ≠ gn') (h3 : X ≠ go') :
    Gs B (L1 ++ (nm, [i]) :: L2) gn' cn' go' co' (l1 ++ ⟨X, c, [i]⟩ :: l2) W' := by
  have hlt := h.lt
  have hnd := h.nd
  have hxs := h.xs
  rw [List.map_append] at hnd hlt
  rw [List.map_append, List.map_append] at hxs
  obtain ⟨e1, e2⟩ := List.append_inj hxs (by simpa using hl)
  have hlen : (L1 ++ (nm, [i]) :: L2).length = (L1 ++ L2).length + 1 := by simp [Nat.add_assoc]
  rw [List.nodup_cons, List.nodup_cons] at hnd
  obtain ⟨a1, a2, a3⟩ := hnd
  have hin : ∀ k, k ∈ l1.map Lp.g ++ l2.map Lp.g → k < W.heap.size := fun k hk => (hlt k (by simp only [List.mem_cons]; exact .inr (.inr hk))).2
  have b1 : gn' ∉ l1.map Lp.g ++ l2.map Lp.g := by
    rcases hgn with e | e
    · rw [e]; exact fun hm => a1 (by simp only [List.mem_cons]; exact .inr hm)
    · exact fun hm => by have := hin _ hm; omega
  have b2 : go' ∉ l1.map Lp.g ++ l2.map Lp.g := by
    rcases hgo with e | e
    · rw [e]; exact a2
    · exact fun hm => by have := hin _ hm; omega
  have b3 : X ∉ l1.map Lp.g ++ l2.map Lp.g := fun hm => by have := hin _ hm; omega
  refine ⟨?_, ?_, ?_, ?_, ?_⟩
  · rw [hlen, show namesV (L1 ++ (nm, [i]) :: L2) = strVals (L1.map Prod.fst) ++ [.string nm] ++ strVals (L2.map Prod.fst) from by simp [namesV, strVals]]
    exact hn
  · rw [hlen, lpVals_append, show lpVals (⟨X, c, [i]⟩ :: l2) = [.slice (some ⟨X, 0, none⟩) 1 c] ++ lpVals l2 from rfl, ← List.append_assoc]
    exact ho
  · rw [List.map_append, List.map_cons, List.map_append, List.map_cons, e1, e2]
  · intro y hy
    simp only [List.mem_append, List.mem_cons] at hy
    rcases hy with hy | rfl | hy
    · exact hw y (by simp [hy])
    · exact hx
    · exact hw y (by simp [hy])
  · rw [List.map_append, List.map_cons]
    refine nodup_mid.2 ⟨?_, ?_⟩
    · simp only [List.mem_cons, not_or]
      exact ⟨h2, h3, b3⟩
    · rw [List.nodup_cons, List.nodup_cons]
      refine ⟨?_, b2, a3⟩
      simp only [List.mem_cons, not_or]
      exact ⟨h1, b1⟩
end
end Go.Proofs.YtglcailcdcpadaaGreatDoor
/-
  The model's predicates of a node, and its name.
-/
namespace Go.Proofs.YtglcailcdcpadaaGreatDoor
open Go Go.RowKit

theorem specAt13 (a : Option Addr) (cap : Nat) (l : List Int) (k : Int) (w : World) (hl : l.length ≤ 1048576) (hrow : Row w w.heap.size a (intVals l)) :
    Calls Tryz.prog 118 #[.slice a l.length cap, .int .i64 k] w (GaveX (.int .i64 (atB l k)) w) := by
  obtain ⟨r, hr⟩ : ∃ r, atB l k = r := ⟨_, rfl⟩
  rw [hr]
  have HR := Lib.hid hr
  clear hr
  have HI := Lib.hid (fun W => specInT k 0 ((l.length : Int) - 1) W)
  go_enter Tryz.func118, Tryz.ntmps118
  go_wp2_with fail
  refine (HI.out _).mono ?_
  rintro e w1 ⟨rfl, rfl⟩
  cases h1 : (decide (0 ≤ k) && decide (k ≤ (l.length : Int) - 1)) with
  | false =>
    have HE := Lib.hid (show r = 1 by
      rw [← HR.out]
      unfold atB
      rw [if_neg]
      rintro ⟨p, q⟩
      rw [decide_eq_true p, decide_eq_true (by omega : k ≤ (l.length : Int) - 1)] at h1
      cases h1)
    clear h1
    go_wp2
    go_ret
    exact ⟨by rw [HE.out]; rfl, Below.refl _ _⟩
  | true =>
    simp only [Bool.and_eq_true, decide_eq_true_eq] at h1
    obtain ⟨k', rfl⟩ : ∃ k' : Nat, k = (k' : Int) := ⟨k.toNat, by omega⟩
    have hk : k' < l.length := by omega
    obtain ⟨b, o, rfl, hb, hc⟩ := hrow k' _ (intVals_at l k' hk)
    have HE := Lib.hid (show r = l[k'] by
      rw [← HR.out]
      unfold atB
      rw [if_pos ⟨by omega, by omega⟩]
      simp [hk])
    clear h1
    go_wp2
    go_ret
    exact ⟨by rw [HE.out]; rfl, Below.refl _ _⟩
theorem varsB_eq (x : St) (h : 0 < x.ns.length) : varsB x.body = x.ns[0].h.vs.length := by
  obtain ⟨a, ca, ns, b, cb, zs⟩ := x
  cases ns with
  | nil => simp at h
  | cons y r => rfl
theorem varsB_nil (x : St) (h : x.ns.length = 0) : varsB x.body = 0 := by
  obtain ⟨a, ca, ns, b, cb, zs⟩ := x
  obtain rfl := List.eq_nil_of_length_eq_zero h
  rfl
theorem varsB_le {x : St} (h : Small x.body) : varsB x.body ≤ 1048576 := by
  by_cases h0 : x.ns.length = 0
  · rw [varsB_nil x h0]; omega
  · have hl : 0 < x.ns.length := by omega
    rw [varsB_eq x hl]
    exact (h.e1 _ (List.getElem_mem hl)).1
theorem specVars15 (x : St) (w : World) (h : Small x.body) (hat : x.At w) : Calls Tryz.prog 131 #[x.v] w (GaveX (.int .i64 (varsB x.body)) w) := by
  obtain ⟨v, hv⟩ : ∃ v, varsB x.body = v := ⟨_, rfl⟩
  rw [hv]
  have HV := Lib.hid hv
  clear hv
  obtain ⟨a, ca, ns, b, cb, zs⟩ := x
  simp only [St.v]
  by_cases h0 : ns.length = 0
  · obtain rfl := List.eq_nil_of_length_eq_zero h0
    have HE := Lib.hid (show v = 0 from HV.out.symm)
    clear h0
    obtain ⟨W0, hW0, hb0, hs0, hA0⟩ := one_box2 w (.slice a 0 ca) (.slice b zs.length cb) 27
    obtain ⟨c0, c1⟩ := hA0
    simp only [List.length_nil]
    go_enter Tryz.func131, Tryz.ntmps131
    go_wp2
    go_ret
    exact ⟨by rw [HE.out]; rfl, hb0⟩
  · have hl : 0 < ns.length := by omega
    obtain ⟨W0, hW0, hb0, hs0, hA0⟩ := one_box2 w (.slice a ns.length ca) (.slice b zs.length cb) 27
    obtain ⟨c0, c1⟩ := hA0
    have hd : ((ns.length : Int) == 0) = false := beq_eq_false_iff_ne.2 (by omega)
    have hne : ¬ (ns.length : Int) = 0 := by omega
    have hln : (0 : Int) < (ns.length : Int) := by omega
    have HE := Lib.hid (show v = ns[0].h.vs.length from HV.out.symm.trans (varsB_eq ⟨a, ca, ns, b, cb, zs⟩ hl))
    obtain ⟨b', o, rfl, hbW, hitem, hx⟩ := (hat.below hb0).nodes.item 0 hl
    generalize ns[0] = y at *
    obtain ⟨d0, d1, d2, d3⟩ := hitem
    simp only [Nat.zero_mul, Nat.add_zero] at d0 d1 d2 d3
    clear HV
    go_enter Tryz.func131, Tryz.ntmps131
    go_wp2
    go_ret
    exact ⟨by rw [HE.out]; rfl, hb0⟩
theorem specCount15 (x : St) (w : World) (h : Small x.body) (hat : x.At w) : Calls Tryz.prog 160 #[x.v] w (GaveX (.int .i64 (countB x.body)) w) := by
  have HAT := Lib.hid (fun (W : World) (hb : Below w.heap.size w W) => specVars15 x W h (hat.below hb))
  have hle := varsB_le h
  generalize hv : varsB x.body = v at *
  have HV := Lib.hid hv
  have hlen : x.body.1.length = x.ns.length := by simp [St.body]
  obtain ⟨c, hc⟩ : ∃ c, countB x.body = c := ⟨_, rfl⟩
  rw [hc]
  have HC := Lib.hid (show c = if x.ns.length = 0 then 0 else 2 * v + 1 by rw [← hc, countB, hlen, HV.out])
  clear hc hlen hv hat
  obtain ⟨a, ca, ns, b, cb, zs⟩ := x
  simp only [St.v] at *
  by_cases h0 : ns.length = 0
  · obtain rfl := List.eq_nil_of_length_eq_zero h0
    have HE := Lib.hid (show c = 0 from HC.out)
    clear h0
    obtain ⟨W0, hW0, hb0, hs0, hA0⟩ := one_box2 w (.slice a 0 ca) (.slice b zs.length cb) 27
    obtain ⟨c0, c1⟩ := hA0
    simp only [List.length_nil]
    go_enter Tryz.func160, Tryz.ntmps160
    go_wp2
    go_ret
    exact ⟨by rw [HE.out]; rfl, hb0⟩
  · obtain ⟨W0, hW0, hb0, hs0, hA0⟩ := one_box2 w (.slice a ns.length ca) (.slice b zs.length cb) 27
    obtain ⟨c0, c1⟩ := hA0
    have hd : ((ns.length : Int) == 0) = false := beq_eq_false_iff_ne.2 (by omega)
    have hne : ¬ (ns.length : Int) = 0 := by omega
    have HE := Lib.hid (show c = 2 * v + 1 by have := HC.out; rw [if_neg h0] at this; exact this)
    clear HC
    go_enter Tryz.func160, Tryz.ntmps160
    go_wp2_with fail
    clear hW0 c0 c1
    refine (HAT.out _ hb0).mono ?_
    rintro e w1 ⟨rfl, hb1⟩
    go_wp2
    go_ret
    exact ⟨by rw [HE.out]; simp, hb0.trans (hb1.mono hb0.size)⟩
theorem predN_first {v : Nat} {b : NBody} {k : Int} (h : 0 ≤ k ∧ k < (v : Int)) : predN v b k = atB b.1.1 k := by rw [predN, if_pos h]
theorem predN_second {v : Nat} {b : NBody} {k : Int} (h1 : ¬ (0 ≤ k ∧ k < (v : Int))) (h : (v : Int) ≤ k ∧ k < 2 * (v : Int)) : predN v b k = atB b.1.2 (k - v) := by rw [predN, if_neg h1, if_pos h]
theorem predN_last {v : Nat} {b : NBody} {k : Int} (h1 : ¬ (0 ≤ k ∧ k < (v : Int))) (h2 : ¬ ((v : Int) ≤ k ∧ k < 2 * (v : Int))) (h : k = 2 * (v : Int)) : predN v b k = b.2.1 := by rw [predN, if_neg h1, if_neg h2, if_pos h]
theorem predN_none {v : Nat} {b : NBody} {k : Int} (h1 : ¬ (0 ≤ k ∧ k < (v : Int))) (h2 : ¬ ((v : Int) ≤ k ∧ k < 2 * (v : Int))) (h : ¬ k = 2 * (v : Int)) : predN v b k = 1 := by rw [predN, if_neg h1, if_neg h2, if_neg h]
set_option maxHeartbeats 1600000 in
theorem specPredAt (x : St) (k i : Int) (w : World) (h : Small x.body) (hat : x.At w) :
    Calls Tryz.prog 161 #[x.v, .int .i64 k, .int .i64 i] w (GaveX (.int .i64 (predB x.body k i)) w) := by
  have HAT := Lib.hid (fun (W : World) (hb : Below w.heap.size w W) => specVars15 x W h (hat.below hb))
  have HN := Lib.hid (fun (W : World) (hb : Below w.heap.size w W) => hat.below hb)
  have hle := varsB_le h
  have hnl := h.n1
  have HE1 := Lib.hid h.e1
  generalize hv : varsB x.body = v at *
  have hlen : x.body.1.length = x.ns.length := by simp [St.body]
  have hget : ∀ j (hj : j < x.ns.length), x.body.1.getD j zeroB = x.ns[j].body := fun j hj => by simp [St.body, hj]
  obtain ⟨r, hr⟩ : ∃ r, predB x.body k i = r := ⟨_, rfl⟩
  rw [hr]
  have HR := Lib.hid (show r = if 0 ≤ i ∧ i < (x.ns.length : Int) then predN v (x.body.1.getD i.toNat zeroB) k else 1 by rw [← hr, predB, hlen, hv])
  have HG := Lib.hid hget
  clear hr hlen hget hv hat h
  obtain ⟨a, ca, ns, b, cb, zs⟩ := x
  simp only [St.v] at *
  have HI := Lib.hid (fun W => specInT i 0 ((ns.length : Int) - 1) W)
  have HK := Lib.hid (fun W => specInT k 0 ((v : Int) - 1) W)
  have HL := Lib.hid (fun W => specInT k (v : Int) (2 * (v : Int) - 1) W)
  obtain ⟨W0, hW0, hb0, hs0, hA0⟩ := one_box2 w (.slice a ns.length ca) (.slice b zs.length cb) 27
  have HA := Lib.hid (fun (W : World) (h : Below W0.heap.size W0 W) => And.intro (hA0.keep hs0 h) (hb0.trans (h.mono hb0.size)))
  obtain ⟨c0, c1⟩ := hA0
  go_enter Tryz.func161, Tryz.ntmps161
  go_wp2_with fail
  clear hW0 c0 c1
  refine (HAT.out _ hb0).mono ?_
  rintro e w1 ⟨rfl, hb1⟩
  obtain ⟨⟨d0, d1⟩, hB1⟩ := HA.out _ hb1
  clear HA HAT
  go_wp2_with fail
  refine (HI.out _).mono ?_
  rintro e w2 ⟨rfl, rfl⟩
  cases h1 : (decide (0 ≤ i) && decide (i ≤ (ns.length : Int) - 1)) with
  | false =>
    have HE := Lib.hid (show r = 1 by
      rw [HR.out, if_neg]
      rintro ⟨p, q⟩
      rw [decide_eq_true p, decide_eq_true (by omega : i ≤ (ns.length : Int) - 1)] at h1
      cases h1)
    clear h1
    go_wp2
    go_ret
    exact ⟨by rw [HE.out]; rfl, hB1⟩
  | true =>
  simp only [Bool.and_eq_true, decide_eq_true_eq] at h1
  obtain ⟨j, rfl⟩ : ∃ j : Nat, i = (j : Int) := ⟨i.toNat, by omega⟩
  have hj : j < ns.length := by omega
  have hjl : (j : Int) < (ns.length : Int) := by omega
  have HR2 := Lib.hid (show r = predN v ns[j].body k by
    rw [HR.out, if_pos ⟨by omega, hjl⟩, Int.toNat_natCast, HG.out j hj])
  obtain ⟨b', o, rfl, hbW, hitem, hx⟩ := (HN.out _ hB1).nodes.item j hj
  have hey := HE1.out _ (List.getElem_mem hj)
  clear HR HG HN HI HE1 h1
  generalize ns[j] = y at *
  obtain ⟨e0, e1, e2, e3⟩ := hitem
  go_wp2_with fail
  refine (HK.out _).mono ?_
  rintro e w2 ⟨rfl, rfl⟩
  cases h2 : (decide (0 ≤ k) && decide (k ≤ (v : Int) - 1)) with
  | true =>
    have hk : 0 ≤ k ∧ k < (v : Int) := by simp only [Bool.and_eq_true, decide_eq_true_eq] at h2; omega
    have HE := Lib.hid (HR2.out.trans (predN_first hk))
    clear h2 HR2 hk
    go_wp2_with fail
    refine (specAt13 y.h.a y.h.ca y.h.vs k _ hey.1 hx.v).mono ?_
    rintro e w3 ⟨rfl, hb3⟩
    go_wp2
    go_ret
    exact ⟨by rw [HE.out]; rfl, hB1.trans (hb3.mono hB1.size)⟩
  | false =>
  have hk1 : ¬ (0 ≤ k ∧ k < (v : Int)) := fun ⟨p, q⟩ => by
    rw [decide_eq_true p, decide_eq_true (by omega : k ≤ (v : Int) - 1)] at h2
    cases h2
  have HK1 := Lib.hid hk1
  clear h2 hk1
  go_wp2_with fail
  refine (HL.out _).mono ?_
  rintro e w2 ⟨rfl, rfl⟩
  cases h3 : (decide ((v : Int) ≤ k) && decide (k ≤ 2 * (v : Int) - 1)) with
  | true =>
    have hk : (v : Int) ≤ k ∧ k < 2 * (v : Int) := by simp only [Bool.and_eq_true, decide_eq_true_eq] at h3; omega
    have HE := Lib.hid (HR2.out.trans (predN_second HK1.out hk))
    have hkv : IntKind.i64.wrap (k - (v : Int)) = k - (v : Int) := by rw [IntKind.wrap_i64]; omega
    clear h3 HR2
    go_wp2_with fail
    refine (specAt13 y.h.b y.h.cb y.h.zs (k - (v : Int)) _ hey.2 hx.z).mono ?_
    rintro e w3 ⟨rfl, hb3⟩
    go_wp2
    go_ret
    exact ⟨by rw [HE.out]; rfl, hB1.trans (hb3.mono hB1.size)⟩
  | false =>
  have hk2 : ¬ ((v : Int) ≤ k ∧ k < 2 * (v : Int)) := fun ⟨p, q⟩ => by
    rw [decide_eq_true p, decide_eq_true (by omega : k ≤ 2 * (v : Int) - 1)] at h3
    cases h3
  have HK2 := Lib.hid hk2
  clear h3 hk2
  by_cases h4 : k = 2 * (v : Int)
  · have HE := Lib.hid (HR2.out.trans (predN_last HK1.out HK2.out h4))
    clear HR2
    have hbe : (k == 2 * (v : Int)) = true := beq_iff_eq.2 h4
    have H4 := Lib.hid h4
    clear h4
    go_wp2
    go_ret
    exact ⟨by rw [HE.out]; rfl, hB1⟩
  · have HE := Lib.hid (HR2.out.trans (predN_none HK1.out HK2.out h4))
    clear HR2
    have hbe : (k == 2 * (v : Int)) = false := beq_eq_false_iff_ne.2 h4
    go_wp2
    go_ret
    exact ⟨by rw [HE.out]; rfl, hB1⟩
end Go.Proofs.YtglcailcdcpadaaGreatDoor
/-
  The model's name of a node.
-/
namespace Go.Proofs.YtglcailcdcpadaaGreatDoor
open Go Go.RowKit

theorem countB_le {x : St} (h : Small x.body) : countB x.body ≤ 2097153 := by
  have := varsB_le h
  unfold countB
  split <;> omega
set_option maxHeartbeats 1600000 in
theorem specNodeName (x : St) (i : Int) (w : World) (h : Small x.body) (hat : x.At w) :
    Calls Tryz.prog 150 #[x.v, .int .i64 i] w (GaveX (.string (nameS x.body i)) w) := by
  have HC := Lib.hid (fun (W : World) (hb : Below w.heap.size w W) => specCount15 x W h (hat.below hb))
  have HP := Lib.hid (fun (W : World) (k : Int) (hb : Below w.heap.size w W) => specPredAt x k i W h (hat.below hb))
  have hcl := countB_le h
  have hnl := h.n1
  have hlen : x.body.1.length = x.ns.length := by simp [St.body]
  obtain ⟨r, hr⟩ : ∃ r, nameS x.body i = r := ⟨_, rfl⟩
  rw [hr]
  obtain ⟨c, hc⟩ : ∃ c, countB x.body = c := ⟨_, rfl⟩
  rw [hc] at HC hcl
  have HR := Lib.hid (show r = if 0 ≤ i ∧ i < (x.ns.length : Int) then nameTo x.body i c else ⟨#[]⟩ by rw [← hr, nameS, hlen, hc])
  have HT := Lib.hid (fun k => nameTo_next x.body i k)
  have HZ := Lib.hid (fun k => nameTo_size x.body i k)
  have h0 : nameTo x.body i 0 = ⟨#[]⟩ := rfl
  clear hr hc hlen hat h
  generalize nameTo x.body i = nm at *
  generalize x.body = s at *
  obtain ⟨a, ca, ns, b, cb, zs⟩ := x
  simp only [St.v] at *
  have HI := Lib.hid (fun W => specInT i 0 ((ns.length : Int) - 1) W)
  obtain ⟨W0, hW0, hb0, hs0, hA0⟩ := one_box2 w (.slice a ns.length ca) (.slice b zs.length cb) 27
  have HA := Lib.hid (fun (W : World) (h : Below W0.heap.size W0 W) => And.intro (hA0.keep hs0 h) (hb0.trans (h.mono hb0.size)))
  obtain ⟨c0, c1⟩ := hA0
  go_enter Tryz.func150, Tryz.ntmps150
  go_wp2_with fail
  refine (HI.out _).mono ?_
  rintro e w1 ⟨rfl, rfl⟩
  cases h1 : (decide (0 ≤ i) && decide (i ≤ (ns.length : Int) - 1)) with
  | false =>
    have HE := Lib.hid (show r = ⟨#[]⟩ by
      rw [HR.out, if_neg]
      rintro ⟨p, q⟩
      rw [decide_eq_true p, decide_eq_true (by omega : i ≤ (ns.length : Int) - 1)] at h1
      cases h1)
    clear h1
    go_wp2
    go_ret
    exact ⟨by rw [HE.out]; rfl, hb0⟩
  | true =>
  have HR2 := Lib.hid (show r = nm c by
    simp only [Bool.and_eq_true, decide_eq_true_eq] at h1
    rw [HR.out, if_pos ⟨h1.1, by omega⟩])
  clear h1 HR
  go_wp2_with fail
  refine (HC.out _ hb0).mono ?_
  rintro e w2 ⟨rfl, hb2⟩
  clear c0 c1 hW0
  go_wp2
  go_loopw [5, 7] (fun s i wr => ∃ k : Nat, k ≤ c ∧ i = .int .i64 k ∧ s = .string (nm k) ∧ Below W0.heap.size W0 wr) (fun _ i _ => c - (intOf i).toNat)
  case atStart => exact ⟨0, Nat.zero_le _, rfl, by rw [h0], hb2⟩
  case round =>
    clear hb2
    obtain ⟨k, hk, rfl, rfl, hb⟩ := hrel
    obtain ⟨⟨c0, c1⟩, hB⟩ := HA.out _ hb
    by_cases hlt : k < c
    · have hz := HZ.out k
      go_wp2_with fail
      refine (HP.out _ (k : Int) hB).mono ?_
      rintro e w3 ⟨rfl, hb3⟩
      generalize hp : predB s (k : Int) i = p
      have hnx := HT.out k
      rw [hp] at hnx
      have HNX := Lib.hid hnx
      have h2 := textT_size p
      have hq := fun W => run_string_add_sum (P := Tryz.prog) W (nm k) (textT p) (by omega)
      rw [← HNX.out] at hq
      clear hp hnx
      go_wp2_with fail
      refine (specTruthText p _).mono ?_
      rintro e w4 ⟨rfl, rfl⟩
      go_wp2
      go_roundw
      case rel => exact ⟨k + 1, by omega, by go_num, rfl, hb.trans (hb3.mono hb.size)⟩
      case measure => simp [intOf]; omega
    · have HE := Lib.hid (show nm k = r by rw [HR2.out, show k = c by omega])
      go_wp2
      go_ret
      exact ⟨by rw [← HE.out]; rfl, hB⟩
end Go.Proofs.YtglcailcdcpadaaGreatDoor
