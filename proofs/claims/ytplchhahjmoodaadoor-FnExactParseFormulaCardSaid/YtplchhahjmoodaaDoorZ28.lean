/-
  Several texts of one proof in one file, in the order in which they build.
-/
import Derived.Test.YtplchhahjmoodaaDoorChecked
import Derived.Test.YtplchhahjmoodaaDoorZ08
import Derived.Test.YtplchhahjmoodaaDoorZ06
import Derived.Test.YtplchhahjmoodaaDoorZ12
import Derived.Test.YtplchhahjmoodaaDoorZ27
/-
  The law writes marks into the nodes of a formula, and looks later whether they are still there. A formula that may be written: each of its rows is a block of its own, or none.
-/
namespace Go.Proofs.YtplchhahjmoodaaDoor
open Go Go.RowKit Go.ChangeAt Go.ChangeShapes Go.WideShapes

mutual
def Ft.Mine (w : World) (lo hi : Nat) : Ft → Prop
  | .mk _ _ _ _ a cap pp => OwnIn lo hi w 26 5 (.slice a pp.length cap) pp.length (fmVals pp) ∧ Ft.Mines w lo hi (Value.slice a pp.length cap).ownBlock pp
def Ft.Mines (w : World) (lo hi : Nat) (r : Option Nat) : List Ft → Prop
  | [] => lo ≤ hi
  | t :: ts => ∃ m1 m2, lo ≤ m1 ∧ t.Mine w m1 m2 ∧ (∀ k, r = some k → k < m1 ∨ m2 ≤ k) ∧ Ft.Mines w m2 hi r ts
end
theorem Ft.mine_iff {w : World} {lo hi : Nat} (t : Ft) : t.Mine w lo hi ↔ OwnIn lo hi w 26 5 (.slice t.a t.args.length t.cap) t.args.length (fmVals t.args) ∧ Ft.Mines w lo hi (Value.slice t.a t.args.length t.cap).ownBlock t.args := by
  cases t
  rw [Ft.Mine]
  rfl
mutual
theorem Ft.Mine.le {w : World} : ∀ (t : Ft) {lo hi : Nat}, t.Mine w lo hi → lo ≤ hi
  | .mk _ _ _ _ a cap pp, lo, hi, h => by
    rw [Ft.Mine] at h
    exact Ft.Mines.le pp h.2
theorem Ft.Mines.le {w : World} {r : Option Nat} : ∀ (ts : List Ft) {lo hi : Nat}, Ft.Mines w lo hi r ts → lo ≤ hi
  | [], lo, hi, h => h
  | t :: ts, lo, hi, h => by
    rw [Ft.Mines] at h
    obtain ⟨m1, m2, h0, h1, _, h2⟩ := h
    have := Ft.Mine.le t h1
    have := Ft.Mines.le ts h2
    omega
end
mutual
theorem Ft.Mine.turn {w w' : World} {lo' hi' : Nat} (tw : Turn lo' hi' w w') : ∀ (t : Ft) {lo hi : Nat}, t.Mine w lo hi → (hi' ≤ lo ∨ hi ≤ lo') → t.Mine w' lo hi
  | .mk _ _ _ _ a cap pp, lo, hi, h, hd => by
    rw [Ft.Mine] at h ⊢
    exact ⟨h.1.turn tw (by omega), Ft.Mines.turn tw pp h.2 hd⟩
theorem Ft.Mines.turn {w w' : World} {lo' hi' : Nat} {r : Option Nat} (tw : Turn lo' hi' w w') : ∀ (ts : List Ft) {lo hi : Nat}, Ft.Mines w lo hi r ts → (hi' ≤ lo ∨ hi ≤ lo') → Ft.Mines w' lo hi r ts
  | [], lo, hi, h, _ => h
  | t :: ts, lo, hi, h, hd => by
    rw [Ft.Mines] at h ⊢
    obtain ⟨m1, m2, h0, h1, h2, h3⟩ := h
    have := Ft.Mine.le t h1
    have := Ft.Mines.le ts h3
    exact ⟨m1, m2, h0, Ft.Mine.turn tw t h1 (by omega), h2, Ft.Mines.turn tw ts h3 (by omega)⟩
end
/-- The parts are kept where their row's block turns. -/
theorem Ft.Mines.stored {w w' : World} {b : Nat} (tw : Turn b (b + 1) w w') : ∀ (ts : List Ft) {lo hi : Nat}, Ft.Mines w lo hi (some b) ts → Ft.Mines w' lo hi (some b) ts
  | [], lo, hi, h => h
  | t :: ts, lo, hi, h => by
    rw [Ft.Mines] at h ⊢
    obtain ⟨m1, m2, h0, h1, h2, h3⟩ := h
    have := h2 b rfl
    exact ⟨m1, m2, h0, Ft.Mine.turn tw t h1 (by omega), h2, Ft.Mines.stored tw ts h3⟩
theorem Ft.Mines.split {w : World} {r : Option Nat} {x : Ft} {us : List Ft} : ∀ (ts : List Ft) {lo hi : Nat}, Ft.Mines w lo hi r (ts ++ x :: us) → ∃ m0 m1 m2, Ft.Mines w lo m0 r ts ∧ m0 ≤ m1 ∧ x.Mine w m1 m2 ∧ (∀ k, r = some k → k < m1 ∨ m2 ≤ k) ∧ Ft.Mines w m2 hi r us
  | [], lo, hi, h => by
    rw [List.nil_append, Ft.Mines] at h
    obtain ⟨m1, m2, h0, h1, h2, h3⟩ := h
    exact ⟨lo, m1, m2, Nat.le_refl _, h0, h1, h2, h3⟩
  | t :: ts, lo, hi, h => by
    rw [List.cons_append, Ft.Mines] at h
    obtain ⟨n1, n2, g0, g1, g2, g3⟩ := h
    obtain ⟨m0, m1, m2, h1, h2, h3, h4, h5⟩ := Ft.Mines.split ts g3
    exact ⟨m0, m1, m2, by rw [Ft.Mines]; exact ⟨n1, n2, g0, g1, g2, h1⟩, h2, h3, h4, h5⟩
theorem Ft.Mines.join {w : World} {r : Option Nat} {x : Ft} {us : List Ft} {m0 m1 m2 hi : Nat} (h0 : m0 ≤ m1) (h1 : x.Mine w m1 m2) (h2 : ∀ k, r = some k → k < m1 ∨ m2 ≤ k) (h3 : Ft.Mines w m2 hi r us) : ∀ (ts : List Ft) {lo : Nat}, Ft.Mines w lo m0 r ts → Ft.Mines w lo hi r (ts ++ x :: us)
  | [], lo, h => by
    rw [Ft.Mines] at h
    rw [List.nil_append, Ft.Mines]
    exact ⟨m1, m2, by omega, h1, h2, h3⟩
  | t :: ts, lo, h => by
    rw [Ft.Mines] at h
    obtain ⟨n1, n2, g0, g1, g2, g3⟩ := h
    rw [List.cons_append, Ft.Mines]
    exact ⟨n1, n2, g0, g1, g2, Ft.Mines.join h0 h1 h2 h3 ts g3⟩
theorem OwnIn.all {lo hi : Nat} {W : World} {e size n : Nat} {v : Value} {xs : List Value} (h : W.ownsRow lo e size v n xs) (hh : ∀ k, v.ownBlock = some k → k < hi) (hs : hi ≤ W.heap.size) : OwnIn lo hi W e size v n xs := ⟨hs, h, hh⟩
theorem OwnIn.keep {lo hi lo' hi' : Nat} {W W' : World} {e size n : Nat} {v : Value} {xs : List Value} (h : OwnIn lo hi W e size v n xs) (t : Turn lo' hi' W W') (hd : ∀ k, v.ownBlock = some k → k < lo' ∨ hi' ≤ k) : OwnIn lo hi W' e size v n xs :=
  ⟨Nat.le_trans h.1 t.size, own_turn h.2.1 t hd, h.2.2⟩
mutual
theorem Ft.Own.mine {w : World} : ∀ (t : Ft) {lo hi : Nat}, t.Own w lo hi → hi ≤ w.heap.size → t.Mine w lo hi
  | .mk _ _ _ _ a cap pp, lo, hi, h, hs => by
    rw [Ft.Own] at h
    obtain ⟨b, rfl, h1, h2, h3⟩ := h
    have := Ft.Owns.le pp h3
    rw [Ft.Mine]
    refine ⟨⟨hs, own_base h2 h1, fun k hk => by cases hk; show b < hi; omega⟩, ?_⟩
    exact Ft.Owns.mines pp h3 hs (by show b < b + 1; omega) (by omega)
theorem Ft.Owns.mines {w : World} {b : Nat} : ∀ (ts : List Ft) {lo lo' hi : Nat}, Ft.Owns w lo hi ts → hi ≤ w.heap.size → b < lo → lo' ≤ lo → Ft.Mines w lo' hi (some b) ts
  | [], lo, lo', hi, h, _, _, hl => by
    rw [Ft.Owns] at h
    rw [Ft.Mines]
    omega
  | t :: ts, lo, lo', hi, h, hs, hb, hl => by
    rw [Ft.Owns] at h
    obtain ⟨m, h1, h2⟩ := h
    have := Ft.Own.le t h1
    have := Ft.Owns.le ts h2
    rw [Ft.Mines]
    exact ⟨lo, m, hl, Ft.Own.mine t h1 (by omega), (fun k hk => by cases hk; omega), Ft.Owns.mines ts h2 hs (by omega) (Nat.le_refl _)⟩
end
mutual
theorem Ft.Mine.in_ {w : World} {B : Nat} : ∀ (t : Ft) {lo hi : Nat}, t.Mine w lo hi → hi ≤ B → t.In w B
  | .mk _ _ _ _ a cap pp, lo, hi, h, hB => by
    rw [Ft.Mine] at h
    rw [Ft.In]
    exact ⟨Row.owned5 h.1.2.1 (fun k hk => Nat.lt_of_lt_of_le (h.1.2.2 k hk) hB), Ft.Mines.in_ pp h.2 hB⟩
theorem Ft.Mines.in_ {w : World} {B : Nat} {r : Option Nat} : ∀ (ts : List Ft) {lo hi : Nat}, Ft.Mines w lo hi r ts → hi ≤ B → Ft.Ins w B ts
  | [], lo, hi, h, hB => trivial
  | t :: ts, lo, hi, h, hB => by
    rw [Ft.Mines] at h
    rw [Ft.Ins]
    obtain ⟨m1, m2, h0, h1, h2, h3⟩ := h
    have := Ft.Mines.le ts h3
    exact ⟨Ft.Mine.in_ t h1 (by omega), Ft.Mines.in_ ts h3 hB⟩
end

/- What marks from k on make of formulas. -/
mutual
def Ft.markd (k : Nat) : Ft → Ft
  | .mk _ _ _ _ a cap pp => .mk (k : Int) ((k : Int) + 1) ((k : Int) + 1 + 1) ((k : Int) + 1 + 1 + 1) a cap (Ft.markds (k + 4) pp)
def Ft.markds (k : Nat) : List Ft → List Ft
  | [] => []
  | t :: ts => t.markd k :: Ft.markds (k + 4 * t.er.size) ts
end
theorem Ft.markd_eq (k : Nat) (t : Ft) : t.markd k = .mk (k : Int) ((k : Int) + 1) ((k : Int) + 1 + 1) ((k : Int) + 1 + 1 + 1) t.a t.cap (Ft.markds (k + 4) t.args) := by
  cases t
  rw [Ft.markd]
  rfl
theorem Ft.markds_length : ∀ (ts : List Ft) (k : Nat), (Ft.markds k ts).length = ts.length
  | [], _ => rfl
  | t :: ts, k => by rw [Ft.markds, List.length_cons, Ft.markds_length ts, List.length_cons]
theorem Ft.markds_append : ∀ (ts us : List Ft) (k : Nat), Ft.markds k (ts ++ us) = Ft.markds k ts ++ Ft.markds (k + 4 * Fm.sizes (ts.map Ft.er)) us
  | [], us, k => by simp [Ft.markds, Fm.sizes]
  | t :: ts, us, k => by
    rw [List.cons_append, Ft.markds, Ft.markds, Ft.markds_append ts us, List.map_cons, Fm.sizes, List.cons_append]
    congr 3
    omega
theorem Ft.markds_next (ts : List Ft) (k j : Nat) (h : j < ts.length) : Ft.markds k (ts.take (j + 1)) = Ft.markds k (ts.take j) ++ [(ts[j]).markd (k + 4 * Fm.sizes ((ts.take j).map Ft.er))] := by
  rw [take_next ts j h, Ft.markds_append]
  rfl
theorem Ft.markds_at : ∀ (ts : List Ft) (k j : Nat) (h : j < ts.length), (Ft.markds k ts)[j]? = some ((ts[j]).markd (k + 4 * Fm.sizes ((ts.take j).map Ft.er)))
  | t :: ts, k, 0, _ => by simp [Ft.markds, Fm.sizes]
  | t :: ts, k, j + 1, h => by
    have := Ft.markds_at ts (k + 4 * t.er.size) j (by simpa using h)
    rw [Ft.markds, List.getElem?_cons_succ, this]
    simp only [List.getElem_cons_succ, List.take_succ_cons, List.map_cons, Fm.sizes]
    congr 2
    omega
/-- The node's own marks are made, those of its parts not yet. -/
def Ft.head (k : Nat) (t : Ft) : Ft := .mk (k : Int) ((k : Int) + 1) ((k : Int) + 1 + 1) ((k : Int) + 1 + 1 + 1) t.a t.cap t.args
theorem fmVals_set4 (ts us : List Ft) (x : Ft) (k : Nat) : ((((fmVals (ts ++ x :: us)).set (ts.length * 5) (.int .i64 (k : Int))).set (ts.length * 5 + 1) (.int .i64 ((k : Int) + 1))).set (ts.length * 5 + 2) (.int .i64 ((k : Int) + 1 + 1))).set (ts.length * 5 + 3) (.int .i64 ((k : Int) + 1 + 1 + 1)) = fmVals (ts ++ x.head k :: us) := by
  rw [fmVals_append, fmVals_cons, fmVals_append, fmVals_cons, ← fmVals_length ts]
  generalize fmVals ts = A
  generalize fmVals us = B
  apply List.ext_getElem?
  intro j
  simp only [List.getElem?_set, List.length_set]
  rcases Nat.lt_or_ge j A.length with hj | hj
  · rw [if_neg (by omega), if_neg (by omega), if_neg (by omega), if_neg (by omega), List.getElem?_append_left hj, List.getElem?_append_left hj]
  · obtain ⟨i, rfl⟩ : ∃ i, j = A.length + i := ⟨j - A.length, by omega⟩
    simp only [List.getElem?_append_right (show A.length ≤ A.length + i by omega), Nat.add_sub_cancel_left]
    match i with
    | 0 => simp [Ft.cells, Ft.head, Ft.kd]
    | 1 => simp [Ft.cells, Ft.head, Ft.k]
    | 2 => simp [Ft.cells, Ft.head, Ft.u]
    | 3 => simp [Ft.cells, Ft.head, Ft.v]
    | 4 =>
      rw [if_neg (by omega), if_neg (by omega), if_neg (by omega), if_neg (by omega)]
      cases x
      rfl
    | i + 5 =>
      rw [if_neg (by omega), if_neg (by omega), if_neg (by omega), if_neg (by omega)]
      simp [Ft.cells]
theorem fmVals_parts (ts us : List Ft) (x y : Ft) (h : x.cells = y.cells) : fmVals (ts ++ x :: us) = fmVals (ts ++ y :: us) := by
  rw [fmVals_append, fmVals_cons, fmVals_append, fmVals_cons, h]
theorem Ft.head_cells (k : Nat) (t : Ft) : (t.head k).cells = (t.markd k).cells := by
  rw [Ft.markd_eq]
  simp [Ft.head, Ft.cells, Ft.kd, Ft.k, Ft.u, Ft.v, Ft.a, Ft.cap, Ft.args, Ft.markds_length]

/-- All nodes behind a row are marked; only its blocks have turned. -/
def MarkedTrees (a : Option Addr) (cap : Nat) (ts : List Ft) (lo hi k : Nat) (w : World) (e : Ending) (w' : World) : Prop :=
  e = .returned (.int .i64 ((k + 4 * Fm.sizes (ts.map Ft.er) : Nat) : Int)) ∧ OwnIn lo hi w' 26 5 (.slice a ts.length cap) ts.length (fmVals (Ft.markds k ts)) ∧ Ft.Mines w' lo hi (Value.slice a ts.length cap).ownBlock (Ft.markds k ts) ∧ Turn lo hi w w'

set_option maxRecDepth 100000 in
set_option maxHeartbeats 3200000 in
theorem markRow (a : Option Addr) (cap : Nat) (ts : List Ft) (lo hi k : Nat) (w : World) (hsz : Fm.sizes (ts.map Ft.er) ≤ 1099511627776) (hk : k ≤ 1099511627776 * 8 - 4 * Fm.sizes (ts.map Ft.er))
    (hown : OwnIn lo hi w 26 5 (.slice a ts.length cap) ts.length (fmVals ts)) (hmine : Ft.Mines w lo hi (Value.slice a ts.length cap).ownBlock ts)
    (ih : ∀ x ∈ ts, ∀ (lo' hi' k' : Nat) (W : World), Fm.sizes (x.args.map Ft.er) ≤ 1099511627776 → k' ≤ 1099511627776 * 8 - 4 * Fm.sizes (x.args.map Ft.er) → x.Mine W lo' hi' → Calls Tryd.prog 25 #[.slice x.a x.args.length x.cap, .int .i64 k'] W (MarkedTrees x.a x.cap x.args lo' hi' k' W)) :
    Calls Tryd.prog 25 #[.slice a ts.length cap, .int .i64 k] w (MarkedTrees a cap ts lo hi k w) := by
  have hlen := Fm.length_sizes (ts.map Ft.er)
  rw [List.length_map] at hlen
  have IH := Lib.hid ih
  have HSZ := Lib.hid hsz
  have HK := Lib.hid hk
  have hlen2 : ts.length ≤ 1099511627776 := by omega
  obtain ⟨R, hR⟩ : ∃ R, (Value.slice a ts.length cap).ownBlock = R := ⟨_, rfl⟩
  have HR := Lib.hid hR
  rw [hR] at hmine
  have HOWN := Lib.hid hown
  have HMINE := Lib.hid hmine
  clear ih hsz hk hR hown hmine hlen
  go_enter Tryd.func25, Tryd.ntmps25
  go_wp2_with fail
  go_loopw [1, 5] (fun m i wr => ∃ j : Nat, j ≤ ts.length ∧ i = .int .i64 j ∧ m = .int .i64 ((k + 4 * Fm.sizes ((ts.take j).map Ft.er) : Nat) : Int) ∧ OwnIn lo hi wr 26 5 (.slice a ts.length cap) ts.length (fmVals (Ft.markds k (ts.take j) ++ ts.drop j)) ∧ Ft.Mines wr lo hi R (Ft.markds k (ts.take j) ++ ts.drop j) ∧ Turn lo hi w wr)
    (fun _ i _ => ts.length - (intOf i).toNat)
  case atStart => exact ⟨0, Nat.zero_le _, rfl, by simp [Fm.sizes], by simpa [Ft.markds] using HOWN.out, by simpa [Ft.markds] using HMINE.out, Turn.refl _ _ _⟩
  case round =>
    obtain ⟨j, hj, rfl, rfl, ho, hmi, ht⟩ := hrel
    by_cases hlt : j < ts.length
    · obtain ⟨g, hg⟩ : ∃ g, a = some ⟨g, 0, none⟩ := by
        rcases ho.2.1.2 with ⟨_, h0⟩ | ⟨g, _, _, hv, _⟩
        · omega
        · injection hv with hv _ _
          exact ⟨g, hv⟩
      have hRg : R = some g := by rw [← HR.out, hg]; rfl
      subst hg
      subst hRg
      have hnx := Ft.markds_next ts k j hlt
      have hsx := Ft.sizes_take ts j hlt
      have hsl := Ft.sizes_le ts (j + 1)
      have hI := IH.out ts[j] (List.getElem_mem hlt)
      have hdrop : ts.drop j = ts[j] :: ts.drop (j + 1) := (List.getElem_cons_drop hlt).symm
      have hxs := (ts[j]).size_er
      have hpl : (Ft.markds k (ts.take j)).length = j := by rw [Ft.markds_length, List.length_take]; omega
      have hdl : (ts.drop (j + 1)).length + (j + 1) = ts.length := by rw [List.length_drop]; omega
      rw [hdrop] at ho hmi
      generalize ts[j] = x at *
      obtain ⟨P, hP⟩ : ∃ P, Ft.markds k (ts.take j) = P := ⟨_, rfl⟩
      obtain ⟨D, hD⟩ : ∃ D, ts.drop (j + 1) = D := ⟨_, rfl⟩
      rw [hP, hD] at ho hmi
      rw [hP] at hnx hpl
      rw [hD] at hdl
      obtain ⟨S, hS⟩ : ∃ S, Fm.sizes ((ts.take j).map Ft.er) = S := ⟨_, rfl⟩
      rw [hS] at hsx hnx
      rw [hS]
      obtain ⟨N, hN⟩ : ∃ N, k + 4 * S = N := ⟨_, rfl⟩
      rw [hN] at hnx
      rw [hN]
      obtain ⟨m0, m1, m2, hmP, hm01, hmX, hmR, hmD⟩ := Ft.Mines.split P hmi
      have hgR := hmR g rfl
      have hxl := fmVals_length (P ++ x :: D)
      rw [List.length_append, List.length_cons, hpl] at hxl
      have hat : ∀ i, i < 5 → (fmVals (P ++ x :: D))[j * 5 + i]? = x.cells[i]? := fun i hi => by
        have h1 := fmVals_at (P ++ x :: D) j (by rw [List.length_append, List.length_cons]; omega) i hi
        rw [h1]
        congr 2
        rw [List.getElem_append_right (by omega)]
        simp [hpl]
      have hcell : ∀ i (hi : i < 5), wr.cell? ⟨g, j * 5 + i, none⟩ = x.cells[i]? := fun i hi => by
        have h1 := ho.2.1.cellAt (j * 5 + i) (by omega)
        rw [h1]
        exact hat i hi
      have c0 : wr.cell? ⟨g, j * 5, none⟩ = some (.int .i64 x.kd) := hcell 0 (by omega)
      have c1 : wr.cell? ⟨g, j * 5 + 1, none⟩ = some (.int .i64 x.k) := hcell 1 (by omega)
      have c2 : wr.cell? ⟨g, j * 5 + 2, none⟩ = some (.int .i64 x.u) := hcell 2 (by omega)
      have c3 : wr.cell? ⟨g, j * 5 + 3, none⟩ = some (.int .i64 x.v) := hcell 3 (by omega)
      have c4 : wr.cell? ⟨g, j * 5 + 4, none⟩ = some (.slice x.a x.args.length x.cap) := hcell 4 (by omega)
      have hf0 := ho.2.1.frozenAt (j * 5)
      have hf1 := ho.2.1.frozenAt (j * 5 + 1)
      have hf2 := ho.2.1.frozenAt (j * 5 + 2)
      have hf3 := ho.2.1.frozenAt (j * 5 + 3)
      have s0 := ho.2.1.stored (j * 5) (.int .i64 (N : Int))
      have s1 := s0.1.stored (j * 5 + 1) (.int .i64 ((N : Int) + 1))
      have s2 := s1.1.stored (j * 5 + 2) (.int .i64 ((N : Int) + 1 + 1))
      have s3 := s2.1.stored (j * 5 + 3) (.int .i64 ((N : Int) + 1 + 1 + 1))
      have hTg : ∀ {W W' : World}, W.grownBy W' (some g) → Turn g (g + 1) W W' := fun h => Turn.of_grown h fun k hk => by cases hk; omega
      have ht4 := (hTg s0.2).trans ((hTg s1.2).trans ((hTg s2.2).trans (hTg s3.2)))
      have hset := fmVals_set4 P D x N
      rw [hpl] at hset
      have hown4 := s3.1
      rw [hset] at hown4
      have hg1 := (ho.2.1.lt g rfl).1
      have hg2 := ho.2.2 g rfl
      obtain ⟨W4, hW4⟩ : ∃ W, (((wr.setCell ⟨g, j * 5, none⟩ (.int .i64 (N : Int))).setCell ⟨g, j * 5 + 1, none⟩ (.int .i64 ((N : Int) + 1))).setCell ⟨g, j * 5 + 2, none⟩ (.int .i64 ((N : Int) + 1 + 1))).setCell ⟨g, j * 5 + 3, none⟩ (.int .i64 ((N : Int) + 1 + 1 + 1)) = W := ⟨_, rfl⟩
      rw [hW4] at hown4 ht4
      have hPl := Ft.Mines.le P hmP
      have hDl := Ft.Mines.le D hmD
      have hown5 : OwnIn lo hi W4 26 5 (.slice (some ⟨g, 0, none⟩) ts.length cap) ts.length (fmVals (P ++ x.head N :: D)) := ⟨Nat.le_trans ho.1 ht4.size, hown4, ho.2.2⟩
      have KK := Lib.hid (And.intro hown5 (And.intro (ht.trans (ht4.mono hg1 (by omega))) (And.intro (Nat.le_trans hPl hm01) hDl)))
      have HM := Lib.hid (And.intro (Ft.Mines.stored ht4 P hmP) (And.intro hm01 (And.intro (Ft.Mine.turn ht4 x hmX (by omega)) (And.intro hmR (Ft.Mines.stored ht4 D hmD)))))
      have HNX := Lib.hid hnx
      have HSX := Lib.hid hsx
      have HSL := Lib.hid hsl
      have HI := Lib.hid hI
      have HXS := Lib.hid hxs
      have HD := Lib.hid hD
      have HSS := Lib.hid hS
      have HN := Lib.hid hN
      have HW4 := Lib.hid hW4
      have HPL := Lib.hid (And.intro hpl hdl)
      have hkS : N ≤ 9223372036854775000 := by have := HK.out; have := HSZ.out; have := HSL.out; omega
      have h4 : (N : Int) + 1 + 1 + 1 + 1 = ((N + 4 : Nat) : Int) := by omega
      have H4 := Lib.hid h4
      clear ho hmi ht hnx hsx hsl hI hdrop hxs hpl hdl hP hD hS hN hmP hm01 hmX hmR hmD hgR hxl hat hcell s0 s1 s2 s3 ht4 hset hown4 hown5 hg1 hg2 hW4 hPl hDl h4
      go_wp2_with fail
      rw [H4.out, HW4.out]
      refine (HI.out m1 m2 (N + 4) W4 (by have := HXS.out; have := HSX.out; have := HSL.out; have := HSZ.out; omega) (by have := HXS.out; have := HSX.out; have := HSL.out; have := HSZ.out; have := HK.out; have := HN.out; omega) HM.out.2.2.1).mono ?_
      rintro e w1 ⟨rfl, ho1, hm1, ht1⟩
      have HO1 := Lib.hid ho1
      have HM1 := Lib.hid hm1
      have HT1 := Lib.hid ht1
      have hz1 := ht1.size
      clear ho1 hm1 ht1
      go_wp2_with fail
      go_roundw
      case rel =>
        have hmR := HM.out.2.2.2.1
        have hgR := hmR g rfl
        have e1 : Ft.markds k (ts.take (j + 1)) ++ ts.drop (j + 1) = P ++ x.markd N :: D := by rw [HNX.out, HD.out, List.append_assoc]; rfl
        refine ⟨j + 1, by omega, by go_num, ?_, ?_, ?_, KK.out.2.1.trans (HT1.out.mono KK.out.2.2.1 KK.out.2.2.2)⟩
        · have := HSX.out
          have := HXS.out
          have := HN.out
          congr 1
          omega
        · rw [e1, ← fmVals_parts P D (x.head N) (x.markd N) (Ft.head_cells N x)]
          exact KK.out.1.keep HT1.out (fun q hq => by cases hq; exact hgR)
        · rw [e1]
          refine Ft.Mines.join HM.out.2.1 ?_ hmR (Ft.Mines.turn HT1.out D HM.out.2.2.2.2 (.inl (Nat.le_refl _))) P (Ft.Mines.turn HT1.out P HM.out.1 (.inr HM.out.2.1))
          rw [Ft.markd_eq, Ft.Mine, Ft.markds_length]
          exact ⟨HO1.out, HM1.out⟩
      case measure => simp [intOf]; omega
    · obtain rfl : j = ts.length := by omega
      have HO := Lib.hid ho
      have HMI := Lib.hid hmi
      have HT := Lib.hid ht
      clear ho hmi ht
      go_wp2_with fail
      go_ret
      have h1 := HO.out
      have h2 := HMI.out
      rw [List.take_length, List.drop_length, List.append_nil] at h1 h2
      rw [List.take_length]
      exact ⟨rfl, h1, by rw [HR.out]; exact h2, HT.out⟩

set_option maxHeartbeats 400000 in
theorem markTree : ∀ x : Ft, ∀ (lo hi k : Nat) (w : World), Fm.sizes (x.args.map Ft.er) ≤ 1099511627776 → k ≤ 1099511627776 * 8 - 4 * Fm.sizes (x.args.map Ft.er) → x.Mine w lo hi → Calls Tryd.prog 25 #[.slice x.a x.args.length x.cap, .int .i64 k] w (MarkedTrees x.a x.cap x.args lo hi k w) := by
  apply Ft.ind
  intro x ih lo hi k w hs hk hm
  have h := (Ft.mine_iff x).1 hm
  exact markRow x.a x.cap x.args lo hi k w hs hk h.1 h.2 ih

/-- The first node's own fields are a copy: they are not marked. -/
def Ft.markRest (k : Nat) (x : Ft) : Ft := .mk x.kd x.k x.u x.v x.a x.cap (Ft.markds k x.args)
def MarkedTree (x : Ft) (lo hi k : Nat) (w : World) (e : Ending) (w' : World) : Prop :=
  e = .returned (.int .i64 ((k + 4 * Fm.sizes (x.args.map Ft.er) : Nat) : Int)) ∧ (x.markRest k).Mine w' lo hi ∧ Turn lo hi w w'
set_option maxHeartbeats 400000 in
theorem markFormula (x : Ft) (lo hi k : Nat) (w : World) (hs : Fm.sizes (x.args.map Ft.er) ≤ 1099511627776) (hk : k ≤ 1099511627776 * 8 - 4 * Fm.sizes (x.args.map Ft.er)) (hm : x.Mine w lo hi) :
    Calls Tryd.prog 12 #[x.val, .int .i64 k] w (MarkedTree x lo hi k w) := by
  have hb0 := (Below.refl w.heap.size w).alloc (Nat.le_refl _) (.cells #[.int .i64 x.kd, .int .i64 x.k, .int .i64 x.u, .int .i64 x.v, .slice x.a x.args.length x.cap] 26)
  have HMT := Lib.hid (markTree x lo hi k _ hs hk (Ft.Mine.turn (Turn.of_below (lo := 0) (hi := 0) hb0) x hm (.inl (Nat.zero_le _))))
  have HB := Lib.hid (Turn.of_below (lo := lo) (hi := hi) hb0)
  clear hm hb0
  go_enter Tryd.func12, Tryd.ntmps12
  go_wp2_with fail
  refine HMT.out.mono ?_
  rintro e w1 ⟨rfl, ho1, hm1, ht1⟩
  have HO1 := Lib.hid ho1
  have HM1 := Lib.hid hm1
  have HT1 := Lib.hid ht1
  clear ho1 hm1 ht1
  go_wp2_with fail
  go_ret
  refine ⟨rfl, ?_, HB.out.trans HT1.out⟩
  rw [Ft.markRest, Ft.Mine, Ft.markds_length]
  exact ⟨HO1.out, HM1.out⟩

/-- All marks are there: the number behind the last. -/
def HeldTrees (n k : Nat) (w : World) (e : Ending) (w' : World) : Prop := e = .returned (.int .i64 ((k + 4 * n : Nat) : Int)) ∧ Below w.heap.size w w'

set_option maxRecDepth 100000 in
set_option maxHeartbeats 1600000 in
theorem heldRow (a : Option Addr) (cap : Nat) (ts : List Ft) (k : Nat) (w : World) (hsz : Fm.sizes (ts.map Ft.er) ≤ 1099511627776) (hk : k ≤ 1099511627776 * 8 - 4 * Fm.sizes (ts.map Ft.er))
    (hrow : Row w w.heap.size a (fmVals (Ft.markds k ts))) (hin : ∀ x ∈ Ft.markds k ts, x.In w w.heap.size)
    (ih : ∀ x ∈ ts, ∀ (k' : Nat) (W : World), Fm.sizes (x.args.map Ft.er) ≤ 1099511627776 → k' ≤ 1099511627776 * 8 - 4 * Fm.sizes (x.args.map Ft.er) → (x.markRest k').In W W.heap.size → Calls Tryd.prog 26 #[.slice x.a x.args.length x.cap, .int .i64 k'] W (HeldTrees (Fm.sizes (x.args.map Ft.er)) k' W)) :
    Calls Tryd.prog 26 #[.slice a ts.length cap, .int .i64 k] w (HeldTrees (Fm.sizes (ts.map Ft.er)) k w) := by
  have hlen := Fm.length_sizes (ts.map Ft.er)
  rw [List.length_map] at hlen
  have IH := Lib.hid ih
  have HSZ := Lib.hid hsz
  have HK := Lib.hid hk
  have hlen2 : ts.length ≤ 1099511627776 := by omega
  have HROW := Lib.hid hrow
  have HIN := Lib.hid hin
  clear ih hsz hk hrow hin hlen
  go_enter Tryd.func26, Tryd.ntmps26
  go_wp2_with fail
  go_loopw [1, 5] (fun m i wr => ∃ j : Nat, j ≤ ts.length ∧ i = .int .i64 j ∧ m = .int .i64 ((k + 4 * Fm.sizes ((ts.take j).map Ft.er) : Nat) : Int) ∧ Below w.heap.size w wr)
    (fun _ i _ => ts.length - (intOf i).toNat)
  case atStart => exact ⟨0, Nat.zero_le _, rfl, by simp [Fm.sizes], Below.refl _ _⟩
  case round =>
    obtain ⟨j, hj, rfl, rfl, hb⟩ := hrel
    by_cases hlt : j < ts.length
    · have hmj : (Ft.markds k ts)[j]? = some ((ts[j]).markd (k + 4 * Fm.sizes ((ts.take j).map Ft.er))) := Ft.markds_at ts k j hlt
      have hlt' : j < (Ft.markds k ts).length := by rw [Ft.markds_length]; exact hlt
      obtain ⟨b, o, ha, hbW, hE⟩ := HROW.out.node j hlt'
      have hI := IH.out ts[j] (List.getElem_mem hlt)
      have hN := HIN.out _ (List.getElem_mem hlt')
      have hme : (Ft.markds k ts)[j] = (ts[j]).markd (k + 4 * Fm.sizes ((ts.take j).map Ft.er)) := by
        rw [List.getElem?_eq_getElem hlt'] at hmj
        exact Option.some.inj hmj
      rw [hme] at hE hN
      have hsx := Ft.sizes_take ts j hlt
      have hsl := Ft.sizes_le ts (j + 1)
      have hxs := (ts[j]).size_er
      generalize ts[j] = x at *
      obtain ⟨S, hS⟩ : ∃ S, Fm.sizes ((ts.take j).map Ft.er) = S := ⟨_, rfl⟩
      rw [hS] at hsx hE hN
      rw [hS]
      obtain ⟨N, hN4⟩ : ∃ N, k + 4 * S = N := ⟨_, rfl⟩
      rw [hN4] at hE hN
      rw [hN4]
      subst ha
      rw [Ft.markd_eq] at hE hN
      obtain ⟨c0, c1, c2, c3, c4⟩ := hE.below hb hbW
      simp only [Ft.kd, Ft.k, Ft.u, Ft.v, Ft.a, Ft.args, Ft.cap, Ft.markds_length] at c0 c1 c2 c3 c4
      have hr : (x.markRest (N + 4)).In wr wr.heap.size := by
        have h1 := hN.to hb
        rw [Ft.in_iff] at h1 ⊢
        exact h1
      have HR := Lib.hid hr
      have HI := Lib.hid hI
      have HSX := Lib.hid hsx
      have HSL := Lib.hid hsl
      have HXS := Lib.hid hxs
      have HSS := Lib.hid hS
      have HN := Lib.hid hN4
      have hkS : N ≤ 9223372036854775000 := by have := HK.out; have := HSZ.out; have := HSL.out; omega
      have H4 := Lib.hid (show (N : Int) + 1 + 1 + 1 + 1 = ((N + 4 : Nat) : Int) by omega)
      clear hmj hE hN hr hI hsx hsl hxs hS hN4 hlt' hme
      go_wp2_with fail
      rw [H4.out]
      refine (HI.out (N + 4) _ (by have := HXS.out; have := HSX.out; have := HSL.out; have := HSZ.out; omega) (by have := HXS.out; have := HSX.out; have := HSL.out; have := HSZ.out; have := HK.out; have := HN.out; omega) HR.out).mono ?_
      rintro e w1 ⟨rfl, hb1⟩
      have hB := hb.trans (hb1.mono hb.size)
      clear c0 c1 c2 c3 c4
      go_wp2_with fail
      go_roundw
      case rel =>
        refine ⟨j + 1, by omega, by go_num, ?_, hB⟩
        have := HSX.out
        have := HXS.out
        have := HN.out
        congr 1
        omega
      case measure => simp [intOf]; omega
    · obtain rfl : j = ts.length := by omega
      go_wp2_with fail
      go_ret
      rw [List.take_length]
      exact ⟨rfl, hb⟩
end Go.Proofs.YtplchhahjmoodaaDoor
/-
  Formulas whose rows are blocks of their own, wherever these lie to each other: the program may walk over them, and rows grow.
-/
namespace Go.Proofs.YtplchhahjmoodaaDoor
open Go Go.RowKit Go.ChangeAt Go.ChangeShapes Go.WideShapes

theorem nil_of_none {w : World} {lo hi : Nat} {a : Option Addr} {cap n : Nat} {xs : List Value} (h : OwnIn lo hi w 26 5 (.slice a n cap) n xs) : n = 0 ∨ ∃ b, a = some ⟨b, 0, none⟩ ∧ lo ≤ b ∧ b < hi := by
  rcases h.2.1.2 with ⟨_, h0⟩ | ⟨g, c, cur, hv, _⟩
  · exact .inl h0
  · injection hv with hv _ _
    subst hv
    exact .inr ⟨g, rfl, (h.2.1.lt g rfl).1, h.2.2 g rfl⟩
mutual
theorem Ft.Mine.lie {w : World} : ∀ (t : Ft) {lo hi : Nat}, t.Mine w lo hi → Lie t.places lo hi
  | .mk _ _ _ _ a cap pp, lo, hi, h => by
    rw [Ft.Mine] at h
    rw [Ft.places]
    obtain ⟨h1, h2⟩ := h
    have hk := Ft.Mines.lie pp h2
    rcases nil_of_none h1 with h0 | ⟨b, rfl, hb1, hb2⟩
    · have : pp = [] := List.eq_nil_of_length_eq_zero h0
      subst this
      exact Lie.none_
    · have hr : Lie ((List.range pp.length).map (kidAt (some ⟨b, 0, none⟩))) lo hi := Lie.row hb1 hb2
      refine ⟨List.nodup_append.2 ⟨hr.1, hk.1.1, fun p hp q hq e => ?_⟩, fun p hp => ?_⟩
      · obtain ⟨i, _, rfl⟩ := List.mem_map.1 hp
        have := hk.2 b rfl q hq
        rw [← e] at this
        exact this rfl
      · rcases List.mem_append.1 hp with hp | hp
        · exact hr.2 p hp
        · exact hk.1.2 p hp
theorem Ft.Mines.lie {w : World} {r : Option Nat} : ∀ (ts : List Ft) {lo hi : Nat}, Ft.Mines w lo hi r ts → Lie (Ft.placess ts) lo hi ∧ ∀ k, r = some k → ∀ p ∈ Ft.placess ts, p.block ≠ k
  | [], lo, hi, h => ⟨Lie.none_, fun k _ p hp => by cases hp⟩
  | t :: ts, lo, hi, h => by
    rw [Ft.Mines] at h
    rw [Ft.placess]
    obtain ⟨m1, m2, h0, h1, h2, h3⟩ := h
    have hl1 := Ft.Mine.lie t h1
    have hl2 := Ft.Mines.lie ts h3
    have := Ft.Mine.le t h1
    have := Ft.Mines.le ts h3
    refine ⟨Lie.append (hl1.grow h0 (Nat.le_refl _)) hl2.1 (Nat.le_refl _) (by omega) (by omega), fun k hk p hp => ?_⟩
    rcases List.mem_append.1 hp with hp | hp
    · have := hl1.2 p hp
      have := h2 k hk
      omega
    · exact hl2.2 k hk p hp
end
mutual
theorem Ft.Mine.plain {w : World} : ∀ (t : Ft) {lo hi : Nat}, t.Mine w lo hi → ∀ p ∈ t.places, Plain w p.block
  | .mk _ _ _ _ a cap pp, lo, hi, h, p, hp => by
    rw [Ft.Mine] at h
    rw [Ft.places] at hp
    obtain ⟨h1, h2⟩ := h
    rcases List.mem_append.1 hp with hp | hp
    · obtain ⟨i, hi', rfl⟩ := List.mem_map.1 hp
      rcases nil_of_none h1 with h0 | ⟨b, rfl, _, _⟩
      · rw [h0] at hi'
        simp at hi'
      · exact Plain.owned h1.2.1
    · exact Ft.Mines.plain pp h2 p hp
theorem Ft.Mines.plain {w : World} {r : Option Nat} : ∀ (ts : List Ft) {lo hi : Nat}, Ft.Mines w lo hi r ts → ∀ p ∈ Ft.placess ts, Plain w p.block
  | [], _, _, _, p, hp => by cases hp
  | t :: ts, lo, hi, h, p, hp => by
    rw [Ft.Mines] at h
    rw [Ft.placess] at hp
    obtain ⟨m1, m2, _, h1, _, h3⟩ := h
    rcases List.mem_append.1 hp with hp | hp
    · exact Ft.Mine.plain t h1 p hp
    · exact Ft.Mines.plain ts h3 p hp
end
theorem Ft.Mine.solid {w : World} {t : Ft} {lo hi : Nat} (h : t.Mine w lo hi) (hh : hi ≤ w.heap.size) (hs : t.er.size ≤ 1099511627776) : Solid w t :=
  ⟨Ft.Mine.in_ t h hh, (Ft.Mine.lie t h).1, Ft.Mine.plain t h, hs⟩
theorem Ft.Mines.rebind {w : World} {r r' : Option Nat} : ∀ (ts : List Ft) {lo hi : Nat}, Ft.Mines w lo hi r ts → (∀ k, r' = some k → r = some k ∨ hi ≤ k ∨ k < lo) → Ft.Mines w lo hi r' ts
  | [], lo, hi, h, _ => h
  | t :: ts, lo, hi, h, hr => by
    rw [Ft.Mines] at h ⊢
    obtain ⟨m1, m2, h0, h1, h2, h3⟩ := h
    have hl1 := Ft.Mine.le t h1
    have hl2 := Ft.Mines.le ts h3
    refine ⟨m1, m2, h0, h1, fun k hk => ?_, Ft.Mines.rebind ts h3 fun k hk => ?_⟩
    · rcases hr k hk with h | h | h
      · exact h2 k h
      · omega
      · omega
    · rcases hr k hk with h | h | h
      · exact .inl h
      · exact .inr (.inl h)
      · exact .inr (.inr (by omega))
theorem Ft.Mines.snoc {w : World} {r : Option Nat} {t : Ft} {m m1 m2 hi : Nat} (h0 : m ≤ m1) (h1 : t.Mine w m1 m2) (h2 : ∀ k, r = some k → k < m1 ∨ m2 ≤ k) (h3 : m2 ≤ hi) (ts : List Ft) {lo : Nat} (h : Ft.Mines w lo m r ts) : Ft.Mines w lo hi r (ts ++ [t]) :=
  Ft.Mines.join h0 h1 h2 (by rw [Ft.Mines]; exact h3) ts h
mutual
theorem Ft.Mine.grow {w : World} : ∀ (t : Ft) {lo hi lo' hi' : Nat}, t.Mine w lo hi → lo' ≤ lo → hi ≤ hi' → hi' ≤ w.heap.size → t.Mine w lo' hi'
  | .mk _ _ _ _ a cap pp, lo, hi, lo', hi', h, h1, h2, h3 => by
    rw [Ft.Mine] at h ⊢
    exact ⟨h.1.mono h1 h2 h3, Ft.Mines.grow pp h.2 h1 h2⟩
theorem Ft.Mines.grow {w : World} {r : Option Nat} : ∀ (ts : List Ft) {lo hi lo' hi' : Nat}, Ft.Mines w lo hi r ts → lo' ≤ lo → hi ≤ hi' → Ft.Mines w lo' hi' r ts
  | [], lo, hi, lo', hi', h, h1, h2 => by
    rw [Ft.Mines] at h ⊢
    omega
  | t :: ts, lo, hi, lo', hi', h, h1, h2 => by
    rw [Ft.Mines] at h ⊢
    obtain ⟨m1, m2, g0, g1, g2, g3⟩ := h
    exact ⟨m1, m2, by omega, g1, g2, Ft.Mines.grow ts g3 (Nat.le_refl _) h2⟩
end
theorem Ft.Mine.below {w w' : World} {t : Ft} {lo hi : Nat} (h : t.Mine w lo hi) (hb : Below w.heap.size w w') : t.Mine w' lo hi := Ft.Mine.turn (Turn.of_below (lo := 0) (hi := 0) hb) t h (.inl (Nat.zero_le _))
theorem Ft.Mines.below {w w' : World} {r : Option Nat} {ts : List Ft} {lo hi : Nat} (h : Ft.Mines w lo hi r ts) (hb : Below w.heap.size w w') : Ft.Mines w' lo hi r ts := Ft.Mines.turn (Turn.of_below (lo := 0) (hi := 0) hb) ts h (.inl (Nat.zero_le _))
/-- A formula without parts, that holds nothing. -/
theorem Ft.mine_leaf {w : World} {lo hi : Nat} (kd k u v : Int) (h : lo ≤ hi) (hs : hi ≤ w.heap.size) : (Ft.mk kd k u v none 0 []).Mine w lo hi := by
  rw [Ft.Mine, Ft.Mines]
  exact ⟨⟨hs, World.ownsRow_nil _ _ _ _, fun k hk => by cases hk⟩, h⟩
end Go.Proofs.YtplchhahjmoodaaDoor
