/-
  Several texts of one proof in one file, in the order in which they build.
-/
import Derived.Test.YtplchhahjmoodaaGreatDoorChecked
import Derived.Test.YtplchhahjmoodaaGreatDoorZ08
import Derived.Test.YtplchhahjmoodaaGreatDoorZ06
import Derived.Test.YtplchhahjmoodaaGreatDoorZ12
/-
  A formula that a call made: all its rows are new, each in a block of its own, those of the parts behind that of the whole.
-/
namespace Go.Proofs.YtplchhahjmoodaaGreatDoor
open Go Go.RowKit Go.ChangeAt Go.ChangeShapes Go.WideShapes

mutual
def Ft.Own (w : World) (lo hi : Nat) : Ft → Prop
  | .mk _ _ _ _ a cap pp => ∃ b, a = some ⟨b, 0, none⟩ ∧ lo ≤ b ∧ w.ownsRow b 27 5 (.slice a pp.length cap) pp.length (fmVals pp) ∧ Ft.Owns w (b + 1) hi pp
def Ft.Owns (w : World) (lo hi : Nat) : List Ft → Prop
  | [] => lo ≤ hi
  | t :: ts => ∃ m, t.Own w lo m ∧ Ft.Owns w m hi ts
end
theorem Ft.own_iff {w : World} {lo hi : Nat} (t : Ft) : t.Own w lo hi ↔ ∃ b, t.a = some ⟨b, 0, none⟩ ∧ lo ≤ b ∧ w.ownsRow b 27 5 (.slice t.a t.args.length t.cap) t.args.length (fmVals t.args) ∧ Ft.Owns w (b + 1) hi t.args := by
  cases t
  rw [Ft.Own]
  rfl
mutual
theorem Ft.Own.le {w : World} : ∀ (t : Ft) {lo hi : Nat}, t.Own w lo hi → lo < hi
  | .mk _ _ _ _ a cap pp, lo, hi, h => by
    rw [Ft.Own] at h
    obtain ⟨b, _, h1, _, h2⟩ := h
    have := Ft.Owns.le pp h2
    omega
theorem Ft.Owns.le {w : World} : ∀ (ts : List Ft) {lo hi : Nat}, Ft.Owns w lo hi ts → lo ≤ hi
  | [], lo, hi, h => h
  | t :: ts, lo, hi, h => by
    rw [Ft.Owns] at h
    obtain ⟨m, h1, h2⟩ := h
    have := Ft.Own.le t h1
    have := Ft.Owns.le ts h2
    omega
end
theorem own_turn {w w' : World} {lo lo' hi' e size n : Nat} {v : Value} {xs : List Value} (h : w.ownsRow lo e size v n xs) (t : Turn lo' hi' w w') (hd : ∀ k, v.ownBlock = some k → k < lo' ∨ hi' ≤ k) : w'.ownsRow lo e size v n xs := by
  refine ⟨h.1, h.2.imp id ?_⟩
  rintro ⟨g, cap, cur, rfl, hb, hgc, r⟩
  exact ⟨g, cap, cur, rfl, hb, (t.block g (h.lt g rfl).2 (hd g rfl)).trans hgc, r⟩
mutual
theorem Ft.Own.turn {w w' : World} {lo' hi' : Nat} (tw : Turn lo' hi' w w') : ∀ (t : Ft) {lo hi : Nat}, t.Own w lo hi → (hi' ≤ lo ∨ hi ≤ lo') → t.Own w' lo hi
  | .mk _ _ _ _ a cap pp, lo, hi, h, hd => by
    rw [Ft.Own] at h ⊢
    obtain ⟨b, rfl, h1, h2, h3⟩ := h
    have := Ft.Owns.le pp h3
    exact ⟨b, rfl, h1, own_turn h2 tw (fun k hk => by cases hk; show b < lo' ∨ hi' ≤ b; omega), Ft.Owns.turn tw pp h3 (by omega)⟩
theorem Ft.Owns.turn {w w' : World} {lo' hi' : Nat} (tw : Turn lo' hi' w w') : ∀ (ts : List Ft) {lo hi : Nat}, Ft.Owns w lo hi ts → (hi' ≤ lo ∨ hi ≤ lo') → Ft.Owns w' lo hi ts
  | [], lo, hi, h, _ => h
  | t :: ts, lo, hi, h, hd => by
    rw [Ft.Owns] at h ⊢
    obtain ⟨m, h1, h2⟩ := h
    have := Ft.Own.le t h1
    have := Ft.Owns.le ts h2
    exact ⟨m, Ft.Own.turn tw t h1 (by omega), Ft.Owns.turn tw ts h2 (by omega)⟩
end
mutual
theorem Ft.Own.grow {w : World} : ∀ (t : Ft) {lo hi lo' hi' : Nat}, t.Own w lo hi → lo' ≤ lo → hi ≤ hi' → t.Own w lo' hi'
  | .mk _ _ _ _ a cap pp, lo, hi, lo', hi', h, h1, h2 => by
    rw [Ft.Own] at h ⊢
    obtain ⟨b, e, g1, g2, g3⟩ := h
    exact ⟨b, e, by omega, g2, Ft.Owns.grow pp g3 (Nat.le_refl _) h2⟩
theorem Ft.Owns.grow {w : World} : ∀ (ts : List Ft) {lo hi lo' hi' : Nat}, Ft.Owns w lo hi ts → lo' ≤ lo → hi ≤ hi' → Ft.Owns w lo' hi' ts
  | [], lo, hi, lo', hi', h, h1, h2 => by
    rw [Ft.Owns] at h ⊢
    omega
  | t :: ts, lo, hi, lo', hi', h, h1, h2 => by
    rw [Ft.Owns] at h ⊢
    obtain ⟨m, g1, g2⟩ := h
    exact ⟨m, Ft.Own.grow t g1 h1 (Nat.le_refl _), Ft.Owns.grow ts g2 (Nat.le_refl _) h2⟩
end
theorem Ft.Owns.snoc {w : World} {t : Ft} {m hi : Nat} : ∀ (ts : List Ft) {lo : Nat}, Ft.Owns w lo m ts → t.Own w m hi → Ft.Owns w lo hi (ts ++ [t])
  | [], lo, h, g => by
    rw [Ft.Owns] at h
    rw [List.nil_append, Ft.Owns]
    exact ⟨hi, Ft.Own.grow t g h (Nat.le_refl _), Nat.le_refl _⟩
  | x :: ts, lo, h, g => by
    rw [Ft.Owns] at h
    obtain ⟨m', h1, h2⟩ := h
    rw [List.cons_append, Ft.Owns]
    exact ⟨m', h1, Ft.Owns.snoc ts h2 g⟩
theorem Row.owned5 {w : World} {base : Nat} {e : TypeId} {n : Nat} {a : Option Addr} {c : Nat} {ts : List Ft} {B : Nat} (h : w.ownsRow base e 5 (.slice a n c) n (fmVals ts)) (hB : ∀ k, (Value.slice a n c).ownBlock = some k → k < B) : Row w B a (fmVals ts) := by
  intro k x hx
  rcases h.2 with ⟨hv, hn⟩ | ⟨g, cap, cur, hv, _, hg, _⟩
  · have hl := h.1
    rw [hn] at hl
    have : fmVals ts = [] := List.eq_nil_of_length_eq_zero (by simpa using hl)
    rw [this] at hx
    simp at hx
  · injection hv with ha _ _
    subst ha
    refine ⟨g, 0, rfl, hB g rfl, ?_⟩
    have hc := h.cells (g := g) rfl k x hx
    rw [add_plain] at hc
    exact hc
mutual
theorem Ft.Own.in_ {w : World} {B : Nat} : ∀ (t : Ft) {lo hi : Nat}, t.Own w lo hi → hi ≤ B → t.In w B
  | .mk _ _ _ _ a cap pp, lo, hi, h, hB => by
    rw [Ft.Own] at h
    rw [Ft.In]
    obtain ⟨b, rfl, h1, h2, h3⟩ := h
    have := Ft.Owns.le pp h3
    exact ⟨Row.owned5 h2 (fun k hk => by cases hk; show b < B; omega), Ft.Owns.in_ pp h3 hB⟩
theorem Ft.Owns.in_ {w : World} {B : Nat} : ∀ (ts : List Ft) {lo hi : Nat}, Ft.Owns w lo hi ts → hi ≤ B → Ft.Ins w B ts
  | [], lo, hi, h, hB => trivial
  | t :: ts, lo, hi, h, hB => by
    rw [Ft.Owns] at h
    rw [Ft.Ins]
    obtain ⟨m, h1, h2⟩ := h
    have := Ft.Owns.le ts h2
    exact ⟨Ft.Own.in_ t h1 (by omega), Ft.Owns.in_ ts h2 hB⟩
end
mutual
theorem Ft.Own.lie {w : World} : ∀ (t : Ft) {lo hi : Nat}, t.Own w lo hi → Lie t.places lo hi
  | .mk _ _ _ _ a cap pp, lo, hi, h => by
    rw [Ft.Own] at h
    rw [Ft.places]
    obtain ⟨b, rfl, h1, h2, h3⟩ := h
    have := Ft.Owns.le pp h3
    exact Lie.append (Lie.row (Nat.le_refl b) (Nat.lt_succ_self b)) (Ft.Owns.lie pp h3) (Nat.le_refl _) (by omega) (by omega) |>.grow h1 (Nat.le_refl _)
theorem Ft.Owns.lie {w : World} : ∀ (ts : List Ft) {lo hi : Nat}, Ft.Owns w lo hi ts → Lie (Ft.placess ts) lo hi
  | [], lo, hi, h => Lie.none_
  | t :: ts, lo, hi, h => by
    rw [Ft.Owns] at h
    rw [Ft.placess]
    obtain ⟨m, h1, h2⟩ := h
    have := Ft.Own.le t h1
    have := Ft.Owns.le ts h2
    exact Lie.append (Ft.Own.lie t h1) (Ft.Owns.lie ts h2) (Nat.le_refl _) (by omega) (by omega)
end
end Go.Proofs.YtplchhahjmoodaaGreatDoor
/-
  The nodes of a formula in memory: where each stands, its parts, all of them; what a walk from part to part reaches. Nothing here knows of the program's text.
-/
namespace Go.Proofs.YtplchhahjmoodaaGreatDoor
open Go Go.RowKit

/-- A node: its place, and the tree that begins there. -/
abbrev Loc := Addr × Ft
def kids (x : Loc) : List Loc := x.2.args.mapIdx fun i y => (kidAt x.2.a i, y)
theorem kids_length (x : Loc) : (kids x).length = x.2.args.length := by simp [kids]
theorem kids_at (x : Loc) (i : Nat) (h : i < x.2.args.length) : (kids x)[i]? = some (kidAt x.2.a i, x.2.args[i]) := by simp [kids, h]
theorem kids_mem {x y : Loc} (h : y ∈ kids x) : ∃ (i : Nat) (hi : i < x.2.args.length), y = (kidAt x.2.a i, x.2.args[i]) := by
  obtain ⟨i, hi, rfl⟩ := List.mem_iff_getElem.1 h
  have hi' : i < x.2.args.length := by rwa [kids_length] at hi
  exact ⟨i, hi', by simp [kids]⟩
theorem kids_fst (x : Loc) : (kids x).map Prod.fst = (List.range x.2.args.length).map (kidAt x.2.a) := by
  apply List.ext_getElem?
  intro i
  simp only [kids, List.getElem?_map, List.getElem?_mapIdx]
  rcases Nat.lt_or_ge i x.2.args.length with h | h
  · simp [h]
  · simp [h]
theorem kids_snd (x : Loc) : (kids x).map Prod.snd = x.2.args := by
  apply List.ext_getElem?
  intro i
  simp only [kids, List.getElem?_map, List.getElem?_mapIdx]
  cases x.2.args[i]? <;> rfl
def ptrV (x : Loc) : Value := .pointer (some x.1)
def ptrs (l : List Loc) : List Value := l.map ptrV
theorem ptrs_length (l : List Loc) : (ptrs l).length = l.length := by simp [ptrs]
theorem ptrs_snoc (l : List Loc) (x : Loc) : ptrs (l ++ [x]) = ptrs l ++ [.pointer (some x.1)] := by simp [ptrs, ptrV]
theorem ptrs_at (l : List Loc) (i : Nat) (h : i < l.length) : (ptrs l)[i]? = some (.pointer (some l[i].1)) := by simp [ptrs, ptrV, h]
theorem oneCell_ptr (a : Option Addr) : ∀ u ∈ [Value.pointer a], u.oneCell' = true := by
  intro u hu
  simp at hu
  subst hu
  rfl

/-- The node lies in a world, below block B, in a block of plain cells. -/
structure LocOk (w : World) (B : Nat) (x : Loc) : Prop where
  blk : x.1.block < B
  at_ : ∃ b o, x.1 = ⟨b, o, none⟩ ∧ NodeAt w b o x.2
  in_ : x.2.In w B
  plain : Plain w x.1.block
  plains : ∀ p ∈ x.2.places, Plain w p.block
theorem LocOk.below {w w' : World} {x : Loc} (h : LocOk w w.heap.size x) (hb : Below w.heap.size w w') : LocOk w' w'.heap.size x := by
  obtain ⟨b, o, e, hn⟩ := h.at_
  have hbl := h.blk
  rw [e] at hbl
  exact ⟨Nat.lt_of_lt_of_le h.blk hb.size, ⟨b, o, e, hn.below hb hbl⟩, h.in_.to hb, h.plain.below hb h.blk, fun p hp => (h.plains p hp).below hb (h.plains p hp).lt⟩
theorem LocOk.kid {w : World} {B : Nat} {x y : Loc} (h : LocOk w B x) (hy : y ∈ kids x) : LocOk w B y := by
  obtain ⟨i, hi, rfl⟩ := kids_mem hy
  obtain ⟨b, o, ha, hb, hn⟩ := h.in_.row.node i hi
  have hk : kidAt x.2.a i = ⟨b, o + i * 5, none⟩ := by rw [ha]; rfl
  have hp : kidAt x.2.a i ∈ x.2.places := by
    rw [Ft.places_eq]
    exact List.mem_append_left _ (List.mem_map.2 ⟨i, List.mem_range.2 hi, rfl⟩)
  refine ⟨by rw [hk]; exact hb, ⟨b, o + i * 5, hk, hn⟩, h.in_.part (List.getElem_mem hi), h.plains _ hp, fun p hp => h.plains p ?_⟩
  rw [Ft.places_eq]
  exact List.mem_append_right _ (List.mem_flatMap.2 ⟨_, List.getElem_mem hi, hp⟩)

/-! ### All nodes -/
mutual
def Ft.nodes (p : Addr) : Ft → List Loc
  | .mk kd k u v a cap pp => (p, .mk kd k u v a cap pp) :: Ft.nodess a 0 pp
def Ft.nodess (a : Option Addr) : Nat → List Ft → List Loc
  | _, [] => []
  | i, t :: ts => t.nodes (kidAt a i) ++ Ft.nodess a (i + 1) ts
end
theorem Ft.nodes_eq (p : Addr) (t : Ft) : t.nodes p = (p, t) :: Ft.nodess t.a 0 t.args := by
  cases t
  rw [Ft.nodes]
  rfl
theorem Ft.nodes_self (p : Addr) (t : Ft) : (p, t) ∈ t.nodes p := by rw [Ft.nodes_eq]; exact List.mem_cons_self
theorem Ft.nodess_mem {a : Option Addr} {x : Loc} : ∀ (ts : List Ft) (j : Nat), x ∈ Ft.nodess a j ts ↔ ∃ (i : Nat) (hi : i < ts.length), x ∈ (ts[i]).nodes (kidAt a (j + i))
  | [], j => by simp [Ft.nodess]
  | t :: ts, j => by
    rw [Ft.nodess, List.mem_append, Ft.nodess_mem ts (j + 1)]
    constructor
    · rintro (h | ⟨i, hi, h⟩)
      · exact ⟨0, by simp, by simpa using h⟩
      · exact ⟨i + 1, by simpa using hi, by simpa [Nat.add_assoc, Nat.add_comm 1] using h⟩
    · rintro ⟨i, hi, h⟩
      cases i with
      | zero => exact .inl (by simpa using h)
      | succ i => exact .inr ⟨i, by simpa using hi, by simpa [Nat.add_assoc, Nat.add_comm 1] using h⟩
theorem Ft.nodes_mem {p : Addr} {t : Ft} {x : Loc} : x ∈ t.nodes p ↔ x = (p, t) ∨ ∃ y ∈ kids (p, t), x ∈ y.2.nodes y.1 := by
  rw [Ft.nodes_eq, List.mem_cons, Ft.nodess_mem]
  refine or_congr Iff.rfl ⟨?_, ?_⟩
  · rintro ⟨i, hi, h⟩
    refine ⟨(kidAt t.a i, t.args[i]), ?_, by simpa using h⟩
    exact List.mem_of_getElem? (kids_at (p, t) i hi)
  · rintro ⟨y, hy, h⟩
    obtain ⟨i, hi, rfl⟩ := kids_mem hy
    exact ⟨i, hi, by simpa using h⟩
theorem Ft.nodes_closed : ∀ (t : Ft) (p : Addr) (x : Loc), x ∈ t.nodes p → ∀ y ∈ kids x, y ∈ t.nodes p := by
  apply Ft.ind (P := fun t => ∀ (p : Addr) (x : Loc), x ∈ t.nodes p → ∀ y ∈ kids x, y ∈ t.nodes p)
  intro t ih p x hx y hy
  rcases Ft.nodes_mem.1 hx with rfl | ⟨z, hz, hxz⟩
  · exact Ft.nodes_mem.2 (.inr ⟨y, hy, Ft.nodes_self _ _⟩)
  · obtain ⟨i, hi, rfl⟩ := kids_mem hz
    exact Ft.nodes_mem.2 (.inr ⟨_, hz, ih _ (List.getElem_mem hi) _ x hxz y hy⟩)
theorem nodes_in {L : List Loc} (hc : ∀ x ∈ L, ∀ y ∈ kids x, y ∈ L) : ∀ (t : Ft) (p : Addr), (p, t) ∈ L → ∀ x ∈ t.nodes p, x ∈ L := by
  apply Ft.ind (P := fun t => ∀ (p : Addr), (p, t) ∈ L → ∀ x ∈ t.nodes p, x ∈ L)
  intro t ih p hp x hx
  rcases Ft.nodes_mem.1 hx with rfl | ⟨z, hz, hxz⟩
  · exact hp
  · obtain ⟨i, hi, rfl⟩ := kids_mem hz
    exact ih _ (List.getElem_mem hi) _ (hc _ hp _ hz) x hxz
theorem nodes_ok {w : World} {B : Nat} : ∀ (t : Ft) (p : Addr), LocOk w B (p, t) → ∀ x ∈ t.nodes p, LocOk w B x := by
  apply Ft.ind (P := fun t => ∀ (p : Addr), LocOk w B (p, t) → ∀ x ∈ t.nodes p, LocOk w B x)
  intro t ih p hp x hx
  rcases Ft.nodes_mem.1 hx with rfl | ⟨z, hz, hxz⟩
  · exact hp
  · have hz' := hp.kid hz
    obtain ⟨i, hi, rfl⟩ := kids_mem hz
    exact ih _ (List.getElem_mem hi) _ hz' x hxz
mutual
theorem Ft.nodes_perm (p : Addr) : ∀ t : Ft, ((t.nodes p).map Prod.fst).Perm (p :: t.places)
  | .mk kd k u v a cap pp => by
    rw [Ft.nodes, Ft.places, List.map_cons]
    refine List.Perm.cons _ ?_
    have := Ft.nodess_perm a pp 0
    simpa [← List.range_eq_range'] using this
theorem Ft.nodess_perm (a : Option Addr) : ∀ (ts : List Ft) (j : Nat), ((Ft.nodess a j ts).map Prod.fst).Perm ((List.range' j ts.length).map (kidAt a) ++ Ft.placess ts)
  | [], j => by simp [Ft.nodess, Ft.placess]
  | t :: ts, j => by
    rw [Ft.nodess, Ft.placess, List.map_append, List.length_cons, List.range'_succ, List.map_cons, List.cons_append]
    refine ((Ft.nodes_perm (kidAt a j) t).append (Ft.nodess_perm a ts (j + 1))).trans ?_
    rw [List.cons_append]
    refine List.Perm.cons _ ?_
    rw [← List.append_assoc, ← List.append_assoc]
    exact List.Perm.append_right _ List.perm_append_comm
end
theorem Ft.nodes_length (p : Addr) (t : Ft) : (t.nodes p).length = t.er.size := by
  have h := (Ft.nodes_perm p t).length_eq
  rw [List.length_map, List.length_cons, Ft.places_length] at h
  exact h
theorem Ft.nodes_nodup {p : Addr} {t : Ft} (h : (p :: t.places).Nodup) : ((t.nodes p).map Prod.fst).Nodup := (Ft.nodes_perm p t).nodup_iff.2 h

/-! ### Lists without repeats -/
theorem nodup_of_map {α β : Type} {f : α → β} : ∀ {l : List α}, (l.map f).Nodup → l.Nodup
  | [], _ => List.nodup_nil
  | x :: l, h => by
    rw [List.map_cons, List.nodup_cons] at h
    exact List.nodup_cons.2 ⟨fun hx => h.1 (List.mem_map.2 ⟨x, hx, rfl⟩), nodup_of_map h.2⟩
theorem map_inj_on {α β : Type} {f : α → β} : ∀ {l : List α}, (l.map f).Nodup → ∀ {x y : α}, x ∈ l → y ∈ l → f x = f y → x = y
  | [], _, _, _, hx, _, _ => by cases hx
  | z :: l, h, x, y, hx, hy, e => by
    rw [List.map_cons, List.nodup_cons] at h
    rcases List.mem_cons.1 hx with ex | hx1
    · rcases List.mem_cons.1 hy with ey | hy1
      · rw [ex, ey]
      · exact absurd (List.mem_map.2 ⟨y, hy1, e.symm.trans (by rw [ex])⟩) h.1
    · rcases List.mem_cons.1 hy with ey | hy1
      · exact absurd (List.mem_map.2 ⟨x, hx1, e.trans (by rw [ey])⟩) h.1
      · exact map_inj_on h.2 hx1 hy1 e
theorem nodup_le {α : Type} : ∀ {l m : List α}, l.Nodup → (∀ x ∈ l, x ∈ m) → l.length ≤ m.length
  | [], m, _, _ => Nat.zero_le _
  | x :: l, m, h, hs => by
    obtain ⟨h1, h2⟩ := List.nodup_cons.1 h
    obtain ⟨s, t, rfl⟩ := List.append_of_mem (hs x (by simp))
    have := nodup_le (m := s ++ t) h2 fun y hy => by
      have hy' := hs y (by simp [hy])
      rcases List.mem_append.1 hy' with h' | h'
      · exact List.mem_append_left _ h'
      · rcases List.mem_cons.1 h' with rfl | h'
        · exact absurd hy h1
        · exact List.mem_append_right _ h'
    simp only [List.length_append, List.length_cons] at this ⊢
    omega
theorem map_nodup_of {α β γ : Type} {f : α → β} {g : α → γ} : ∀ {l : List α}, (l.map f).Nodup → (∀ x ∈ l, ∀ y ∈ l, g x = g y → f x = f y) → (l.map g).Nodup
  | [], _, _ => List.nodup_nil
  | x :: l, h, hi => by
    rw [List.map_cons, List.nodup_cons] at h ⊢
    refine ⟨fun hx => h.1 ?_, map_nodup_of h.2 fun a ha b hb => hi a (by simp [ha]) b (by simp [hb])⟩
    obtain ⟨y, hy, e⟩ := List.mem_map.1 hx
    exact List.mem_map.2 ⟨y, hy, hi y (by simp [hy]) x (by simp) e⟩
end Go.Proofs.YtplchhahjmoodaaGreatDoor
