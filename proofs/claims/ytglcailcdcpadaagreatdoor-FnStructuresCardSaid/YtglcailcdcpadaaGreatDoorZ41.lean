/-
  A structure that calls made: one of its numbers set anew.
-/
import Derived.Test.YtglcailcdcpadaaGreatDoorZ38
namespace Go.Proofs.YtglcailcdcpadaaGreatDoor
open Go Go.RowKit Go.ChangeAt Go.ChangeShapes Go.WideShapes

theorem fl_set {α : Type} {c : α → List Value} {s : Nat} (hc : ∀ x, (c x).length = s) (xs : List α) (i : Nat) (y : α) (hi : i < xs.length) (j : Nat) (v : Value) (hj : j < s) (h : c y = (c xs[i]).set j v) : fl c (xs.set i y) = (fl c xs).set (i * s + j) v := by
  have hs : xs = xs.take i ++ xs[i] :: xs.drop (i + 1) := by rw [← List.drop_eq_getElem_cons hi, List.take_append_drop]
  have h1 : fl c xs = fl c (xs.take i) ++ (c xs[i] ++ fl c (xs.drop (i + 1))) := by
    conv => lhs; rw [hs]
    rw [fl_append, fl_cons]
  have hl : (fl c (xs.take i)).length = i * s := by rw [fl_length hc, List.length_take, Nat.min_eq_left (by omega)]
  rw [List.set_eq_take_append_cons_drop, if_pos hi, fl_append, fl_cons, h, h1, List.set_append_right _ _ (by rw [hl]; omega), hl, Nat.add_sub_cancel_left, List.set_append_left _ _ (by rw [hc]; exact hj)]
theorem fl_set_same {α : Type} {c : α → List Value} (xs : List α) (i : Nat) (y : α) (hi : i < xs.length) (h : c y = c xs[i]) : fl c (xs.set i y) = fl c xs := by
  have hs : xs = xs.take i ++ xs[i] :: xs.drop (i + 1) := by rw [← List.drop_eq_getElem_cons hi, List.take_append_drop]
  rw [List.set_eq_take_append_cons_drop, if_pos hi, fl_append, fl_cons, h]
  conv => rhs; rw [hs]
  rw [fl_append, fl_cons]
def Nd.setZ (y : Nd) (k : Nat) (v : Int) : Nd := ⟨⟨y.h.a, y.h.ca, y.h.b, y.h.cb, y.h.vs, y.h.zs.set k v⟩, y.s, y.m⟩
def Nd.setV (y : Nd) (k : Nat) (v : Int) : Nd := ⟨⟨y.h.a, y.h.ca, y.h.b, y.h.cb, y.h.vs.set k v, y.h.zs⟩, y.s, y.m⟩
section
variable {lo hi Q : Nat} {W W' : World} {x : St}
theorem map_set_same (ns : List Nd) (i : Nat) (y : Nd) (hi : i < ns.length) (hh : y.hs = ns[i].hs) : (ns.set i y).map Nd.hs = ns.map Nd.hs := by
  rw [List.map_set, hh]
  apply List.ext_getElem?
  intro j
  rw [List.getElem?_set]
  split
  · rename_i e
    subst e
    simp [hi]
  · rfl
theorem St.In.swap (h : x.In lo hi W) {i : Nat} (hi' : i < x.ns.length) {y : Nd} (hh : y.hs = x.ns[i].hs) (hnodes : OwnIn lo hi W' 56 4 x.va x.ns.length (ndVals (x.ns.set i y))) (hnext : OwnIn lo hi W' 3 1 x.vb x.zs.length (intVals x.zs))
    (hrows : ∀ z ∈ x.ns, (∀ k, z.hs k → ¬ x.ns[i].hs k) → z.h.In lo hi W') (hy : y.h.In lo hi W') : St.In lo hi W' { x with ns := x.ns.set i y } := by
  have hm := map_set_same x.ns i y hi' hh
  have hl : (x.ns.set i y).length = x.ns.length := List.length_set
  have hp := List.pairwise_iff_getElem.1 h.rows
  refine ⟨?_, hnext, ?_, ?_, ?_, ?_, ?_⟩
  · show OwnIn lo hi W' _ 4 (.slice x.a (x.ns.set i y).length x.ca) (x.ns.set i y).length _
    rw [hl]
    exact hnodes
  · intro z hz
    have hz : z ∈ x.ns.set i y := hz
    obtain ⟨j, hj, rfl⟩ := List.getElem_of_mem hz
    rw [hl] at hj
    rw [List.getElem_set]
    by_cases hij : i = j
    · rw [if_pos hij]; exact hy
    · rw [if_neg hij]
      refine hrows _ (List.getElem_mem hj) fun k hk hk2 => ?_
      rcases Nat.lt_or_gt_of_ne hij with hlt | hgt
      · have := hp i j (by simpa using hi') (by simpa using hj) hlt k
        simp only [List.getElem_map] at this
        exact this hk2 hk
      · have := hp j i (by simpa using hj) (by simpa using hi') hgt k
        simp only [List.getElem_map] at this
        exact this hk hk2
  · show ((x.ns.set i y).map Nd.hs).Pairwise _
    rw [hm]; exact h.rows
  · intro k hk
    exact h.ab k (by have hk : (Value.slice x.a (x.ns.set i y).length x.ca).ownBlock = some k := hk; rw [hl] at hk; exact hk)
  · intro k hk p hp
    have hp : p ∈ (x.ns.set i y).map Nd.hs := hp
    rw [hm] at hp
    exact h.an k (by have hk : (Value.slice x.a (x.ns.set i y).length x.ca).ownBlock = some k := hk; rw [hl] at hk; exact hk) p hp
  · intro k hk p hp
    have hp : p ∈ (x.ns.set i y).map Nd.hs := hp
    rw [hm] at hp
    exact h.bn k hk p hp
theorem St.has_swap {i : Nat} (hi' : i < x.ns.length) {y : Nd} (hh : y.hs = x.ns[i].hs) {k : Nat} : St.has { x with ns := x.ns.set i y } k → x.has k := by
  have hm := map_set_same x.ns i y hi' hh
  rintro (hk | hk | ⟨z, hz, hk⟩)
  · have hk : (Value.slice x.a (x.ns.set i y).length x.ca).ownBlock = some k := hk
    rw [List.length_set] at hk
    exact .inl hk
  · exact .inr (.inl hk)
  · have h1 : z.hs ∈ (x.ns.set i y).map Nd.hs := List.mem_map.2 ⟨z, hz, rfl⟩
    rw [hm] at h1
    obtain ⟨z', hz', e⟩ := List.mem_map.1 h1
    exact .inr (.inr ⟨z', hz', by rw [e]; exact hk⟩)
theorem Sq.swap {i : Nat} {y : Nd} (h : Sq lo Q x W) (hi' : i < x.ns.length) (hh : y.hs = x.ns[i].hs) (hbox : BoxL W' Q [x.va, x.vb]) (hin : St.In lo W'.heap.size W' { x with ns := x.ns.set i y }) : Sq lo Q { x with ns := x.ns.set i y } W' :=
  ⟨by simp only [St.va, St.vb, List.length_set]; exact hbox, hin, fun hk => h.off (St.has_swap hi' hh hk)⟩
theorem Sq.turn {lo' hi' : Nat} (h : Sq lo Q x W) (t : Turn lo' hi' W W') (hd : hi' ≤ lo) (hq : Q < lo' ∨ hi' ≤ Q) : Sq lo Q x W' := ⟨h.box.turn t hq, (h.in_.turn t (.inr hd)).mono (Nat.le_refl _) t.size (Nat.le_refl _), h.off⟩
/-- A number of a node. -/
theorem Sq.setNum (h : Sq lo Q x W) {ga i j : Nat} (ha : x.a = some ⟨ga, 0, none⟩) (hi' : i < x.ns.length) {y : Nd} (hyh : y.h = x.ns[i].h) (hj : j < 4) {v : Value} (hy : ndCells y = (ndCells x.ns[i]).set j v) :
    Sq lo Q { x with ns := x.ns.set i y } (W.setCell ⟨ga, i * 4 + j, none⟩ v) := by
  have hva : x.va.ownBlock = some ga := by simp only [St.va, ha]; rfl
  have hh : y.hs = x.ns[i].hs := by simp only [Nd.hs, hyh]
  have ts := turn_set W ga (i * 4 + j) v
  have hgQ : Q ≠ ga := fun e => h.off (.inl (e ▸ hva))
  have hin := h.in_
  have hkeep : ∀ z ∈ x.ns, z.h.In lo (W.setCell ⟨ga, i * 4 + j, none⟩ v).heap.size (W.setCell ⟨ga, i * 4 + j, none⟩ v) := fun z hz =>
    ((hin.each z hz).same ts.size fun k hk => ts.block k ((hin.each z hz).has_lt hk).2 (by
      have : k ≠ ga := fun e => hin.an ga hva _ (List.mem_map.2 ⟨z, hz, rfl⟩) (e ▸ hk)
      omega)).mono (Nat.le_refl _) ts.size (Nat.le_refl _)
  refine h.swap hi' hh (h.box.turn ts (by omega)) ((hin.mono (Nat.le_refl _) (Nat.le_refl _) (Nat.le_refl _)).swap (W' := W.setCell ⟨ga, i * 4 + j, none⟩ v) hi' hh ?_ ?_ (fun z hz _ => ?_) ?_ |>.mono (Nat.le_refl _) (by simp) (Nat.le_refl _))
  · have h1 := hin.nodes
    simp only [St.va, ha] at h1 ⊢
    rw [show ndVals (x.ns.set i y) = (ndVals x.ns).set (i * 4 + j) v from fl_set ndCells_length x.ns i y hi' j v hj hy]
    exact ⟨by simp, (h1.2.1.stored (i * 4 + j) v).1, h1.2.2⟩
  · exact hin.next.same ts.size fun k hk => ts.block k (hin.next.2.2 k hk) (by
      have : k ≠ ga := fun e => hin.ab ga hva (e ▸ hk)
      omega)
  · exact (hkeep z hz).mono (Nat.le_refl _) (by simp) (by simp)
  · rw [hyh]
    exact (hkeep _ (List.getElem_mem hi')).mono (Nat.le_refl _) (by simp) (by simp)
/-- A number of a node's row: the second one. -/
theorem Sq.setReach (h : Sq lo Q x W) {gr i k : Nat} (hi' : i < x.ns.length) (hb : x.ns[i].h.b = some ⟨gr, 0, none⟩) {v : Int} :
    Sq lo Q { x with ns := x.ns.set i (x.ns[i].setZ k v) } (W.setCell ⟨gr, k, none⟩ (.int .i64 v)) := by
  have hin := h.in_
  have hm := List.getElem_mem hi'
  have hri := hin.each _ hm
  have hbl : (Value.slice x.ns[i].h.b x.ns[i].h.zs.length x.ns[i].h.cb).ownBlock = some gr := by rw [hb]; rfl
  have hhas : x.ns[i].hs gr := .inr hbl
  have ts := turn_set W gr k (.int .i64 v)
  have hgQ : Q ≠ gr := fun e => h.off (.inr (.inr ⟨_, hm, e ▸ hhas⟩))
  have hh : Nd.hs (x.ns[i].setZ k v) = x.ns[i].hs := by
    funext q
    simp only [Nd.hs, Nd.setZ, Nd.setV, Hp.has, List.length_set]
  refine h.swap hi' hh (h.box.turn ts (by omega)) ((hin.mono (Nat.le_refl _) (Nat.le_refl _) (Nat.le_refl _)).swap (W' := W.setCell ⟨gr, k, none⟩ (.int .i64 v)) hi' hh ?_ ?_ (fun z hz hap => ?_) ?_ |>.mono (Nat.le_refl _) (by simp) (Nat.le_refl _))
  · rw [show ndVals (x.ns.set i (x.ns[i].setZ k v)) = ndVals x.ns from fl_set_same x.ns i _ hi' (by simp only [ndCells, Nd.setZ, List.length_set])]
    exact hin.nodes.same ts.size fun q hq => ts.block q (hin.nodes.2.2 q hq) (by
      have : q ≠ gr := fun e => hin.an q hq _ (List.mem_map.2 ⟨_, hm, rfl⟩) (e ▸ hhas)
      omega)
  · exact hin.next.same ts.size fun q hq => ts.block q (hin.next.2.2 q hq) (by
      have : q ≠ gr := fun e => hin.bn q hq _ (List.mem_map.2 ⟨_, hm, rfl⟩) (e ▸ hhas)
      omega)
  · exact (hin.each z hz).same ts.size fun q hq => ts.block q ((hin.each z hz).has_lt hq).2 (by
      have : q ≠ gr := fun e => hap q hq (e ▸ hhas)
      omega)
  · refine Hp.In.of_pair ?_ ?_ ?_
    · exact hri.pv.same ts.size fun q hq => ts.block q (hri.pv.2.2 q hq) (by
        have : q ≠ gr := fun e => hri.pa q hq (e ▸ hbl)
        omega)
    · have h1 := hri.pz
      simp only [Nd.setZ, List.length_set]
      rw [hb] at h1 ⊢
      have e : intVals (x.ns[i].h.zs.set k v) = (intVals x.ns[i].h.zs).set k (.int .i64 v) := by simp [intVals, List.map_set]
      rw [e]
      exact ⟨by simp, (h1.2.1.stored k (.int .i64 v)).1, h1.2.2⟩
    · simp only [Nd.setZ, Nd.setV, List.length_set]
      exact hri.pa
/-- .. the first one. -/
theorem Sq.setVar (h : Sq lo Q x W) {gr i k : Nat} (hi' : i < x.ns.length) (hb : x.ns[i].h.a = some ⟨gr, 0, none⟩) {v : Int} :
    Sq lo Q { x with ns := x.ns.set i (x.ns[i].setV k v) } (W.setCell ⟨gr, k, none⟩ (.int .i64 v)) := by
  have hin := h.in_
  have hm := List.getElem_mem hi'
  have hri := hin.each _ hm
  have hbl : (Value.slice x.ns[i].h.a x.ns[i].h.vs.length x.ns[i].h.ca).ownBlock = some gr := by rw [hb]; rfl
  have hhas : x.ns[i].hs gr := .inl hbl
  have ts := turn_set W gr k (.int .i64 v)
  have hgQ : Q ≠ gr := fun e => h.off (.inr (.inr ⟨_, hm, e ▸ hhas⟩))
  have hh : Nd.hs (x.ns[i].setV k v) = x.ns[i].hs := by
    funext q
    simp only [Nd.hs, Nd.setZ, Nd.setV, Hp.has, List.length_set]
  refine h.swap hi' hh (h.box.turn ts (by omega)) ((hin.mono (Nat.le_refl _) (Nat.le_refl _) (Nat.le_refl _)).swap (W' := W.setCell ⟨gr, k, none⟩ (.int .i64 v)) hi' hh ?_ ?_ (fun z hz hap => ?_) ?_ |>.mono (Nat.le_refl _) (by simp) (Nat.le_refl _))
  · rw [show ndVals (x.ns.set i (x.ns[i].setV k v)) = ndVals x.ns from fl_set_same x.ns i _ hi' (by simp only [ndCells, Nd.setV, List.length_set])]
    exact hin.nodes.same ts.size fun q hq => ts.block q (hin.nodes.2.2 q hq) (by
      have : q ≠ gr := fun e => hin.an q hq _ (List.mem_map.2 ⟨_, hm, rfl⟩) (e ▸ hhas)
      omega)
  · exact hin.next.same ts.size fun q hq => ts.block q (hin.next.2.2 q hq) (by
      have : q ≠ gr := fun e => hin.bn q hq _ (List.mem_map.2 ⟨_, hm, rfl⟩) (e ▸ hhas)
      omega)
  · exact (hin.each z hz).same ts.size fun q hq => ts.block q ((hin.each z hz).has_lt hq).2 (by
      have : q ≠ gr := fun e => hap q hq (e ▸ hhas)
      omega)
  · refine Hp.In.of_pair ?_ ?_ ?_
    · have h1 := hri.pv
      simp only [Nd.setV, List.length_set]
      rw [hb] at h1 ⊢
      have e : intVals (x.ns[i].h.vs.set k v) = (intVals x.ns[i].h.vs).set k (.int .i64 v) := by simp [intVals, List.map_set]
      rw [e]
      exact ⟨by simp, (h1.2.1.stored k (.int .i64 v)).1, h1.2.2⟩
    · exact hri.pz.same ts.size fun q hq => ts.block q (hri.pz.2.2 q hq) (by
        have : q ≠ gr := fun e => hri.pa q (e ▸ hbl) hq
        omega)
    · simp only [Nd.setZ, Nd.setV, List.length_set]
      exact hri.pa
/-- A number of Next. -/
theorem Sq.setNext (h : Sq lo Q x W) {gb k : Nat} (hb : x.b = some ⟨gb, 0, none⟩) {v : Int} : Sq lo Q { x with zs := x.zs.set k v } (W.setCell ⟨gb, k, none⟩ (.int .i64 v)) := by
  have hin := h.in_
  have hbl : x.vb.ownBlock = some gb := by simp only [St.vb, hb]; rfl
  have ts := turn_set W gb k (.int .i64 v)
  have hgQ : Q ≠ gb := fun e => h.off (.inr (.inl (e ▸ hbl)))
  have hl : (x.zs.set k v).length = x.zs.length := List.length_set
  refine ⟨?_, ?_, ?_⟩
  · simp only [St.va, St.vb, List.length_set]
    exact h.box.turn ts (by omega)
  · refine ⟨?_, ?_, fun y hy => ?_, hin.rows, ?_, hin.an, ?_⟩
    · exact (hin.nodes.same ts.size fun q hq => ts.block q (hin.nodes.2.2 q hq) (by
        have : q ≠ gb := fun e => hin.ab q hq (e ▸ hbl)
        omega)).mono (Nat.le_refl _) ts.size (Nat.le_refl _)
    · have h1 := hin.next
      show OwnIn _ _ _ _ 1 (.slice x.b (x.zs.set k v).length x.cb) (x.zs.set k v).length _
      rw [hl]
      simp only [St.vb, hb] at h1 ⊢
      have e : intVals (x.zs.set k v) = (intVals x.zs).set k (.int .i64 v) := by simp [intVals, List.map_set]
      rw [e]
      exact ⟨Nat.le_refl _, (h1.2.1.stored k (.int .i64 v)).1, fun q hq => by have := h1.2.2 q hq; simpa using this⟩
    · exact ((hin.each y hy).same ts.size fun q hq => ts.block q ((hin.each y hy).has_lt hq).2 (by
        have : q ≠ gb := fun e => hin.bn gb hbl _ (List.mem_map.2 ⟨y, hy, rfl⟩) (e ▸ hq)
        omega)).mono (Nat.le_refl _) ts.size (Nat.le_refl _)
    · intro q hq hq2
      exact hin.ab q hq (by have hq2 : (Value.slice x.b (x.zs.set k v).length x.cb).ownBlock = some q := hq2; rw [hl] at hq2; exact hq2)
    · intro q hq p hp
      exact hin.bn q (by have hq : (Value.slice x.b (x.zs.set k v).length x.cb).ownBlock = some q := hq; rw [hl] at hq; exact hq) p hp
  · rintro (hk | hk | hk)
    · exact h.off (.inl hk)
    · have hk : (Value.slice x.b (x.zs.set k v).length x.cb).ownBlock = some Q := hk
      rw [hl] at hk
      exact h.off (.inr (.inl hk))
    · exact h.off (.inr (.inr hk))
end
end Go.Proofs.YtglcailcdcpadaaGreatDoor
