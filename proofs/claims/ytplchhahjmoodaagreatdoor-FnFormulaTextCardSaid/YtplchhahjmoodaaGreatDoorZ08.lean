/-
  Formulas as trees in memory: a node is five cells (kind, three numbers, the slice of its parts), its parts lie in a row. Nothing here knows of the program's text.
-/
import Derived.Lib.SmallJoins
import Derived.Test.YtplchhahjmoodaaGreatDoorZ02
namespace Go.Proofs.YtplchhahjmoodaaGreatDoor
open Go Go.Joins Go.ChangeShapes Go.WideShapes Go.ChangeAt Go.RowKit

/-- A formula as it is: no place in memory. -/
inductive Fm where
  | mk (kd k u v : Int) (args : List Fm)
/-- A formula in memory: its own fields, and where its parts lie. -/
inductive Ft where
  | mk (kd k u v : Int) (a : Option Addr) (cap : Nat) (args : List Ft)
def Ft.kd : Ft → Int | .mk x _ _ _ _ _ _ => x
def Ft.k : Ft → Int | .mk _ x _ _ _ _ _ => x
def Ft.u : Ft → Int | .mk _ _ x _ _ _ _ => x
def Ft.v : Ft → Int | .mk _ _ _ x _ _ _ => x
def Ft.a : Ft → Option Addr | .mk _ _ _ _ x _ _ => x
def Ft.cap : Ft → Nat | .mk _ _ _ _ _ x _ => x
def Ft.args : Ft → List Ft | .mk _ _ _ _ _ _ x => x
def Fm.kd : Fm → Int | .mk x _ _ _ _ => x
def Fm.k : Fm → Int | .mk _ x _ _ _ => x
def Fm.u : Fm → Int | .mk _ _ x _ _ => x
def Fm.v : Fm → Int | .mk _ _ _ x _ => x
def Fm.args : Fm → List Fm | .mk _ _ _ _ x => x
theorem Ft.eta (t : Ft) : t = .mk t.kd t.k t.u t.v t.a t.cap t.args := by cases t; rfl
theorem Fm.eta (t : Fm) : t = .mk t.kd t.k t.u t.v t.args := by cases t; rfl

mutual
theorem Ft.ind {P : Ft → Prop} (h : ∀ t, (∀ x ∈ t.args, P x) → P t) : ∀ t, P t
  | .mk kd k u v a cap as => h (.mk kd k u v a cap as) (Ft.inds h as)
theorem Ft.inds {P : Ft → Prop} (h : ∀ t, (∀ x ∈ t.args, P x) → P t) : ∀ ts : List Ft, ∀ x ∈ ts, P x
  | [], _, hx => by cases hx
  | t :: ts, x, hx => by
    rcases List.mem_cons.1 hx with e | hx
    · exact e ▸ Ft.ind h t
    · exact Ft.inds h ts x hx
end
mutual
theorem Fm.ind {P : Fm → Prop} (h : ∀ t, (∀ x ∈ t.args, P x) → P t) : ∀ t, P t
  | .mk kd k u v as => h (.mk kd k u v as) (Fm.inds h as)
theorem Fm.inds {P : Fm → Prop} (h : ∀ t, (∀ x ∈ t.args, P x) → P t) : ∀ ts : List Fm, ∀ x ∈ ts, P x
  | [], _, hx => by cases hx
  | t :: ts, x, hx => by
    rcases List.mem_cons.1 hx with e | hx
    · exact e ▸ Fm.ind h t
    · exact Fm.inds h ts x hx
end

/-! ### What a formula is -/
mutual
def Ft.er : Ft → Fm
  | .mk kd k u v _ _ as => .mk kd k u v (Ft.ers as)
def Ft.ers : List Ft → List Fm
  | [] => []
  | t :: ts => t.er :: Ft.ers ts
end
theorem Ft.ers_map : ∀ ts : List Ft, Ft.ers ts = ts.map Ft.er
  | [] => rfl
  | t :: ts => by rw [Ft.ers, Ft.ers_map ts]; rfl
theorem Ft.er_eq (t : Ft) : t.er = .mk t.kd t.k t.u t.v (t.args.map Ft.er) := by
  cases t
  rw [Ft.er, Ft.ers_map]
  rfl
theorem Ft.er_args (t : Ft) : t.er.args = t.args.map Ft.er := by rw [Ft.er_eq]; rfl

mutual
def Fm.size : Fm → Nat
  | .mk _ _ _ _ as => Fm.sizes as + 1
def Fm.sizes : List Fm → Nat
  | [] => 0
  | t :: ts => t.size + Fm.sizes ts
end
theorem Fm.sizes_append : ∀ a b : List Fm, Fm.sizes (a ++ b) = Fm.sizes a + Fm.sizes b
  | [], b => by simp [Fm.sizes]
  | t :: ts, b => by simp only [List.cons_append, Fm.sizes, Fm.sizes_append ts b]; omega
theorem Fm.size_eq (t : Fm) : t.size = Fm.sizes t.args + 1 := by cases t; rfl
theorem Fm.size_pos (t : Fm) : 0 < t.size := by rw [Fm.size_eq]; omega
theorem Fm.sizes_take (ts : List Fm) (k : Nat) (h : k < ts.length) : Fm.sizes (ts.take (k + 1)) = Fm.sizes (ts.take k) + ts[k].size := by
  rw [take_next ts k h, Fm.sizes_append]
  simp [Fm.sizes]
theorem Fm.sizes_le (ts : List Fm) (k : Nat) : Fm.sizes (ts.take k) ≤ Fm.sizes ts := by
  have := Fm.sizes_append (ts.take k) (ts.drop k)
  rw [List.take_append_drop] at this
  omega
theorem Fm.size_mem : ∀ (ts : List Fm) (x : Fm), x ∈ ts → x.size ≤ Fm.sizes ts
  | [], _, h => by cases h
  | t :: ts, x, h => by
    rcases List.mem_cons.1 h with rfl | h
    · simp only [Fm.sizes]; omega
    · have := Fm.size_mem ts x h
      simp only [Fm.sizes]; omega
theorem Fm.length_sizes : ∀ ts : List Fm, ts.length ≤ Fm.sizes ts
  | [] => Nat.le_refl _
  | t :: ts => by
    have := Fm.length_sizes ts
    have := t.size_pos
    simp only [List.length_cons, Fm.sizes]; omega

mutual
def Fm.depth : Fm → Nat
  | .mk _ _ _ _ as => Fm.depths as + 1
def Fm.depths : List Fm → Nat
  | [] => 0
  | t :: ts => max t.depth (Fm.depths ts)
end
theorem Fm.depth_eq (t : Fm) : t.depth = Fm.depths t.args + 1 := by cases t; rfl
theorem Fm.depths_append : ∀ a b : List Fm, Fm.depths (a ++ b) = max (Fm.depths a) (Fm.depths b)
  | [], b => by simp [Fm.depths]
  | t :: ts, b => by simp only [List.cons_append, Fm.depths, Fm.depths_append ts b]; omega
theorem Fm.depths_take (ts : List Fm) (k : Nat) (h : k < ts.length) : Fm.depths (ts.take (k + 1)) = max (Fm.depths (ts.take k)) ts[k].depth := by
  rw [take_next ts k h, Fm.depths_append]
  simp [Fm.depths]
mutual
theorem Fm.depth_le_size : ∀ t : Fm, t.depth ≤ t.size
  | .mk _ _ _ _ as => by
    have := Fm.depths_le_sizes as
    simp only [Fm.depth, Fm.size]; omega
theorem Fm.depths_le_sizes : ∀ ts : List Fm, Fm.depths ts ≤ Fm.sizes ts
  | [] => Nat.le_refl _
  | t :: ts => by
    have := Fm.depth_le_size t
    have := Fm.depths_le_sizes ts
    simp only [Fm.depths, Fm.sizes]; omega
end

def Fit (n : Int) : Prop := -9223372036854775808 ≤ n ∧ n ≤ 9223372036854775807
mutual
def Fm.Ok : Fm → Prop
  | .mk kd k u v as => (Fit kd ∧ Fit k ∧ Fit u ∧ Fit v) ∧ Fm.Oks as
def Fm.Oks : List Fm → Prop
  | [] => True
  | t :: ts => t.Ok ∧ Fm.Oks ts
end
theorem Fm.oks_iff : ∀ ts : List Fm, Fm.Oks ts ↔ ∀ x ∈ ts, x.Ok
  | [] => by simp [Fm.Oks]
  | t :: ts => by simp [Fm.Oks, Fm.oks_iff ts]
theorem Fm.ok_iff (t : Fm) : t.Ok ↔ (Fit t.kd ∧ Fit t.k ∧ Fit t.u ∧ Fit t.v) ∧ ∀ x ∈ t.args, x.Ok := by
  cases t
  rw [Fm.Ok, Fm.oks_iff]
  rfl

/-! ### Where it lies -/
abbrev Ft.val (t : Ft) : Value := .agg #[.int .i64 t.kd, .int .i64 t.k, .int .i64 t.u, .int .i64 t.v, .slice t.a t.args.length t.cap]
def Ft.cells (t : Ft) : List Value := [.int .i64 t.kd, .int .i64 t.k, .int .i64 t.u, .int .i64 t.v, .slice t.a t.args.length t.cap]
theorem Ft.val_cells (t : Ft) : t.val = .agg t.cells.toArray := rfl
def fmVals (ts : List Ft) : List Value := ts.flatMap Ft.cells
theorem Ft.cells_length (t : Ft) : t.cells.length = 5 := rfl
theorem fmVals_cons (x : Ft) (ts : List Ft) : fmVals (x :: ts) = x.cells ++ fmVals ts := rfl
theorem fmVals_length : ∀ ts : List Ft, (fmVals ts).length = ts.length * 5
  | [] => rfl
  | x :: ts => by rw [fmVals_cons, List.length_append, fmVals_length ts, Ft.cells_length, List.length_cons]; omega
theorem fmVals_append (a b : List Ft) : fmVals (a ++ b) = fmVals a ++ fmVals b := by simp [fmVals]
theorem fmVals_snoc (l : List Ft) (x : Ft) : fmVals (l ++ [x]) = fmVals l ++ x.cells := by simp [fmVals]
theorem fmVals_at : ∀ (ts : List Ft) (i : Nat) (h : i < ts.length) (j : Nat), j < 5 → (fmVals ts)[i * 5 + j]? = (ts[i]).cells[j]?
  | x :: ts, 0, _, j, hj => by
    rw [fmVals_cons, List.getElem?_append_left (by rw [Ft.cells_length]; omega)]
    simp
  | x :: ts, i + 1, h, j, hj => by
    have h' : i < ts.length := by simpa using h
    rw [fmVals_cons, List.getElem?_append_right (by rw [Ft.cells_length]; omega), Ft.cells_length, show (i + 1) * 5 + j - 5 = i * 5 + j by omega, fmVals_at ts i h' j hj]
    simp
theorem fmVals_one (ts : List Ft) : ∀ u ∈ fmVals ts, u.oneCell' = true := by
  intro u hu
  obtain ⟨x, _, h⟩ := List.mem_flatMap.1 hu
  simp [Ft.cells] at h
  rcases h with rfl | rfl | rfl | rfl | rfl <;> rfl

/-- The five cells of a node. -/
structure NodeAt (w : World) (b o : Nat) (x : Ft) : Prop where
  kd : w.cell? ⟨b, o, none⟩ = some (.int .i64 x.kd)
  k : w.cell? ⟨b, o + 1, none⟩ = some (.int .i64 x.k)
  u : w.cell? ⟨b, o + 2, none⟩ = some (.int .i64 x.u)
  v : w.cell? ⟨b, o + 3, none⟩ = some (.int .i64 x.v)
  s : w.cell? ⟨b, o + 4, none⟩ = some (.slice x.a x.args.length x.cap)
theorem NodeAt.keeps {w w' : World} {b o : Nat} {x : Ft} (h : NodeAt w b o x) (hk : ∀ o', w'.cell? ⟨b, o', none⟩ = w.cell? ⟨b, o', none⟩) : NodeAt w' b o x :=
  ⟨(hk _).trans h.kd, (hk _).trans h.k, (hk _).trans h.u, (hk _).trans h.v, (hk _).trans h.s⟩
theorem NodeAt.below {w w' : World} {B b o : Nat} {x : Ft} (h : NodeAt w b o x) (hB : Below B w w') (hb : b < B) : NodeAt w' b o x :=
  h.keeps fun _ => hB.cell (p := ⟨b, _, none⟩) hb
theorem Row.node {w : World} {B : Nat} {a : Option Addr} {ts : List Ft} (h : Row w B a (fmVals ts)) (i : Nat) (hi : i < ts.length) : ∃ b o, a = some ⟨b, o, none⟩ ∧ b < B ∧ NodeAt w b (o + i * 5) ts[i] := by
  have g := fun j (hj : j < 5) => h (i * 5 + j) _ ((fmVals_at ts i hi j hj).trans (List.getElem?_eq_getElem (by rw [Ft.cells_length]; exact hj)))
  obtain ⟨b, o, rfl, hb, h0⟩ := g 0 (by omega)
  refine ⟨b, o, rfl, hb, ?_⟩
  have at_ : ∀ j (hj : j < 5), w.cell? ⟨b, o + (i * 5 + j), none⟩ = some ((ts[i]).cells[j]'(by rw [Ft.cells_length]; exact hj)) := by
    intro j hj
    obtain ⟨b', o', e, _, hc⟩ := g j hj
    injection e with e
    injection e with e1 e2 _
    subst e1 e2
    exact hc
  exact ⟨by simpa [Ft.cells] using at_ 0 (by omega), by simpa [Ft.cells, Nat.add_assoc] using at_ 1 (by omega), by simpa [Ft.cells, Nat.add_assoc] using at_ 2 (by omega), by simpa [Ft.cells, Nat.add_assoc] using at_ 3 (by omega), by simpa [Ft.cells, Nat.add_assoc] using at_ 4 (by omega)⟩

/- The tree lies in a world, below block B. -/
mutual
def Ft.In (w : World) (B : Nat) : Ft → Prop
  | .mk _ _ _ _ a _ as => Row w B a (fmVals as) ∧ Ft.Ins w B as
def Ft.Ins (w : World) (B : Nat) : List Ft → Prop
  | [] => True
  | t :: ts => t.In w B ∧ Ft.Ins w B ts
end
theorem Ft.ins_iff {w : World} {B : Nat} : ∀ ts : List Ft, Ft.Ins w B ts ↔ ∀ x ∈ ts, x.In w B
  | [] => by simp [Ft.Ins]
  | t :: ts => by simp [Ft.Ins, Ft.ins_iff ts]
theorem Ft.in_iff {w : World} {B : Nat} (t : Ft) : t.In w B ↔ Row w B t.a (fmVals t.args) ∧ ∀ x ∈ t.args, x.In w B := by
  cases t
  rw [Ft.In, Ft.ins_iff]
  rfl
theorem Ft.In.row {w : World} {B : Nat} {t : Ft} (h : t.In w B) : Row w B t.a (fmVals t.args) := ((Ft.in_iff t).1 h).1
theorem Ft.In.part {w : World} {B : Nat} {t x : Ft} (h : t.In w B) (hx : x ∈ t.args) : x.In w B := ((Ft.in_iff t).1 h).2 x hx
theorem Ft.In.below {w w' : World} {B B' : Nat} (hb : Below B w w') (hB : B ≤ B') : ∀ t : Ft, t.In w B → t.In w' B' := by
  apply Ft.ind
  intro t ih h
  exact (Ft.in_iff t).2 ⟨(h.row.below hb).grow hB, fun x hx => ih x hx (h.part hx)⟩
theorem Ft.In.to {w w' : World} {t : Ft} (h : t.In w w.heap.size) (hb : Below w.heap.size w w') : t.In w' w'.heap.size := Ft.In.below hb hb.size t h

/-- Where part i of a row lies. -/
def kidAt (a : Option Addr) (i : Nat) : Addr := match a with | some p => ⟨p.block, p.off + i * 5, none⟩ | none => ⟨0, i * 5, none⟩
/- The places of all nodes but the first. -/
mutual
def Ft.places : Ft → List Addr
  | .mk _ _ _ _ a _ as => (List.range as.length).map (kidAt a) ++ Ft.placess as
def Ft.placess : List Ft → List Addr
  | [] => []
  | t :: ts => t.places ++ Ft.placess ts
end
theorem Ft.placess_flat : ∀ ts : List Ft, Ft.placess ts = ts.flatMap Ft.places
  | [] => rfl
  | t :: ts => by rw [Ft.placess, Ft.placess_flat ts]; rfl
theorem Ft.places_eq (t : Ft) : t.places = (List.range t.args.length).map (kidAt t.a) ++ t.args.flatMap Ft.places := by
  cases t
  rw [Ft.places, Ft.placess_flat]
  rfl
mutual
theorem Ft.places_length : ∀ t : Ft, t.places.length + 1 = t.er.size
  | .mk _ _ _ _ a _ as => by
    have := Ft.placess_length as
    simp only [Ft.places, Ft.er, Fm.size, List.length_append, List.length_map, List.length_range]; omega
theorem Ft.placess_length : ∀ ts : List Ft, (Ft.placess ts).length + ts.length = Fm.sizes (Ft.ers ts)
  | [] => rfl
  | t :: ts => by
    have := Ft.places_length t
    have := Ft.placess_length ts
    simp only [Ft.placess, Ft.ers, Fm.sizes, List.length_append, List.length_cons]; omega
end
/-- Different places, all in a stretch of blocks. -/
def Lie (ps : List Addr) (lo hi : Nat) : Prop := ps.Nodup ∧ ∀ p ∈ ps, lo ≤ p.block ∧ p.block < hi
theorem Lie.none_ {lo hi : Nat} : Lie [] lo hi := ⟨List.nodup_nil, fun p h => by cases h⟩
theorem Lie.grow {ps : List Addr} {lo hi lo' hi' : Nat} (h : Lie ps lo hi) (h1 : lo' ≤ lo) (h2 : hi ≤ hi') : Lie ps lo' hi' := ⟨h.1, fun p hp => by have := h.2 p hp; omega⟩
theorem Lie.append {ps qs : List Addr} {lo m m' hi : Nat} (h : Lie ps lo m) (g : Lie qs m' hi) (hm : m ≤ m') (h1 : m ≤ hi) (h2 : lo ≤ m') : Lie (ps ++ qs) lo hi := by
  refine ⟨List.nodup_append.2 ⟨h.1, g.1, fun p hp q hq e => ?_⟩, fun p hp => ?_⟩
  · have := h.2 p hp
    have := g.2 q hq
    subst e
    omega
  · rcases List.mem_append.1 hp with hp | hp
    · have := h.2 p hp
      omega
    · have := g.2 p hp
      omega
theorem Lie.row {b o n lo hi : Nat} (h1 : lo ≤ b) (h2 : b < hi) : Lie ((List.range n).map (kidAt (some ⟨b, o, none⟩))) lo hi := by
  refine ⟨?_, fun p hp => ?_⟩
  · refine List.pairwise_map.2 (List.nodup_range.imp fun {i j} hne e => hne ?_)
    injection e with _ e _
    omega
  · obtain ⟨i, _, rfl⟩ := List.mem_map.1 hp
    exact ⟨h1, h2⟩
/- Every list of parts is one that can be. -/
mutual
def Ft.Short : Ft → Prop
  | .mk _ _ _ _ _ _ as => as.length ≤ maxLen ∧ Ft.Shorts as
def Ft.Shorts : List Ft → Prop
  | [] => True
  | t :: ts => t.Short ∧ Ft.Shorts ts
end
theorem Ft.shorts_iff : ∀ ts : List Ft, Ft.Shorts ts ↔ ∀ x ∈ ts, x.Short
  | [] => by simp [Ft.Shorts]
  | t :: ts => by simp [Ft.Shorts, Ft.shorts_iff ts]
theorem Ft.short_iff (t : Ft) : t.Short ↔ t.args.length ≤ maxLen ∧ ∀ x ∈ t.args, x.Short := by
  cases t
  rw [Ft.Short, Ft.shorts_iff]
  rfl
theorem Ft.sizes_take (ts : List Ft) (k : Nat) (h : k < ts.length) : Fm.sizes ((ts.take (k + 1)).map Ft.er) = Fm.sizes ((ts.take k).map Ft.er) + (ts[k]).er.size := by
  rw [List.map_take, List.map_take, Fm.sizes_take _ k (by simpa using h)]
  simp
theorem Ft.sizes_le (ts : List Ft) (k : Nat) : Fm.sizes ((ts.take k).map Ft.er) ≤ Fm.sizes (ts.map Ft.er) := by
  rw [List.map_take]
  exact Fm.sizes_le _ k
theorem Ft.depths_take (ts : List Ft) (k : Nat) (h : k < ts.length) : Fm.depths ((ts.take (k + 1)).map Ft.er) = max (Fm.depths ((ts.take k).map Ft.er)) (ts[k]).er.depth := by
  rw [List.map_take, List.map_take, Fm.depths_take _ k (by simpa using h)]
  simp
theorem Ft.size_er (t : Ft) : t.er.size = Fm.sizes (t.args.map Ft.er) + 1 := by rw [Fm.size_eq, Ft.er_args]
theorem Ft.depth_er (t : Ft) : t.er.depth = Fm.depths (t.args.map Ft.er) + 1 := by rw [Fm.depth_eq, Ft.er_args]
theorem Ft.short_of_size : ∀ t : Ft, t.er.size ≤ 1099511627776 → t.Short := by
  apply Ft.ind
  intro t ih h
  have h1 := t.size_er
  have h2 := Fm.length_sizes (t.args.map Ft.er)
  rw [List.length_map] at h2
  refine (Ft.short_iff t).2 ⟨by unfold maxLen; omega, fun x hx => ih x hx ?_⟩
  have := Fm.size_mem (t.args.map Ft.er) x.er (List.mem_map.2 ⟨x, hx, rfl⟩)
  omega
end Go.Proofs.YtplchhahjmoodaaGreatDoor
