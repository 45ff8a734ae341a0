/-
  A structure that calls made: its rows may be written, and no two of them share a block.
-/
import Derived.Test.YtglcailcdcpadaaGreatDoorZ05
import Derived.Test.YtglcailcdcpadaaGreatDoorZ03
namespace Go.Proofs.YtglcailcdcpadaaGreatDoor
open Go Go.RowKit Go.ChangeAt Go.ChangeShapes Go.WideShapes

abbrev Nd.hs (y : Nd) : Nat → Prop := y.h.has
abbrev St.va (x : St) : Value := .slice x.a x.ns.length x.ca
abbrev St.vb (x : St) : Value := .slice x.b x.zs.length x.cb
structure St.In (lo hi : Nat) (W : World) (x : St) : Prop where
  nodes : OwnIn lo hi W 56 4 x.va x.ns.length (ndVals x.ns)
  next : OwnIn lo hi W 3 1 x.vb x.zs.length (intVals x.zs)
  each : ∀ y ∈ x.ns, y.h.In lo hi W
  rows : (x.ns.map Nd.hs).Pairwise fun p q => ∀ k, p k → ¬ q k
  ab : ∀ k, x.va.ownBlock = some k → x.vb.ownBlock ≠ some k
  an : ∀ k, x.va.ownBlock = some k → ∀ p ∈ x.ns.map Nd.hs, ¬ p k
  bn : ∀ k, x.vb.ownBlock = some k → ∀ p ∈ x.ns.map Nd.hs, ¬ p k
/-- Its blocks. -/
def St.has (x : St) (k : Nat) : Prop := x.va.ownBlock = some k ∨ x.vb.ownBlock = some k ∨ ∃ y ∈ x.ns, y.hs k
section
variable {lo hi lo' hi' : Nat} {W W' : World} {x : St}
theorem St.In.le (h : x.In lo hi W) : hi ≤ W.heap.size := h.nodes.1
theorem St.In.has_lt (h : x.In lo hi W) {k : Nat} (hk : x.has k) : lo ≤ k ∧ k < hi := by
  rcases hk with hk | hk | ⟨y, hy, hk⟩
  · exact ⟨(h.nodes.2.1.lt k hk).1, h.nodes.2.2 k hk⟩
  · exact ⟨(h.next.2.1.lt k hk).1, h.next.2.2 k hk⟩
  · exact (h.each y hy).has_lt hk
theorem St.In.same (h : x.In lo hi W) (hz : W.heap.size ≤ W'.heap.size) (hb : ∀ k, x.has k → W'.heap[k]? = W.heap[k]?) : x.In lo hi W' :=
  ⟨h.nodes.same hz fun k hk => hb k (.inl hk), h.next.same hz fun k hk => hb k (.inr (.inl hk)), fun y hy => (h.each y hy).same hz fun k hk => hb k (.inr (.inr ⟨y, hy, hk⟩)), h.rows, h.ab, h.an, h.bn⟩
theorem St.In.turn (h : x.In lo hi W) (t : Turn lo' hi' W W') (hd : hi ≤ lo' ∨ hi' ≤ lo) : x.In lo hi W' :=
  h.same t.size fun k hk => t.block k (Nat.lt_of_lt_of_le (h.has_lt hk).2 h.le) (by have := h.has_lt hk; omega)
theorem St.In.below (h : x.In lo hi W) (hb : Below W.heap.size W W') : x.In lo hi W' := h.same hb.size fun k hk => hb.block k (Nat.lt_of_lt_of_le (h.has_lt hk).2 h.le)
theorem St.In.mono (h : x.In lo hi W) (h1 : lo' ≤ lo) (h2 : hi ≤ hi') (h3 : hi' ≤ W.heap.size) : x.In lo' hi' W :=
  ⟨h.nodes.mono h1 h2 h3, h.next.mono h1 h2 h3, fun y hy => (h.each y hy).mono h1 h2 h3, h.rows, h.ab, h.an, h.bn⟩
theorem St.In.at_ (h : x.In lo hi W) : x.At W := ⟨⟨h.nodes.row, fun y hy => (h.each y hy).at_⟩, h.next.row⟩
theorem St.In.empty (h1 : hi ≤ W.heap.size) : St.In lo hi W ⟨none, 0, [], none, 0, []⟩ :=
  ⟨⟨h1, World.ownsRow_nil _ _ _ _, fun k hk => (by cases hk)⟩, ⟨h1, World.ownsRow_nil _ _ _ _, fun k hk => (by cases hk)⟩, fun y hy => (by simp at hy), List.Pairwise.nil, fun k hk => (by cases hk), fun k hk => (by cases hk), fun k hk => (by cases hk)⟩
/-- A node's rows, by its address. -/
theorem Hp.In.of_pair {h : Hp} (h1 : OwnIn lo hi W 3 1 (.slice h.a h.vs.length h.ca) h.vs.length (intVals h.vs)) (h2 : OwnIn lo hi W 3 1 (.slice h.b h.zs.length h.cb) h.zs.length (intVals h.zs))
    (h3 : ∀ j, (Value.slice h.a h.vs.length h.ca).ownBlock = some j → (Value.slice h.b h.zs.length h.cb).ownBlock ≠ some j) : h.In lo hi W := by
  refine ⟨?_, ?_, ?_⟩
  · rw [intVals_length]; exact h1
  · rw [intVals_length]; exact h2
  · rw [intVals_length, intVals_length]; exact h3
theorem Hp.In.pv {h : Hp} (hin : h.In lo hi W) : OwnIn lo hi W 3 1 (.slice h.a h.vs.length h.ca) h.vs.length (intVals h.vs) := by
  have := HeapIn.v hin; rwa [intVals_length] at this
theorem Hp.In.pz {h : Hp} (hin : h.In lo hi W) : OwnIn lo hi W 3 1 (.slice h.b h.zs.length h.cb) h.zs.length (intVals h.zs) := by
  have := HeapIn.z hin; rwa [intVals_length] at this
theorem Hp.In.pa {h : Hp} (hin : h.In lo hi W) : ∀ j, (Value.slice h.a h.vs.length h.ca).ownBlock = some j → (Value.slice h.b h.zs.length h.cb).ownBlock ≠ some j := by
  have := HeapIn.apart hin; rwa [intVals_length, intVals_length] at this
theorem mem_snoc {α : Type} {P : α → Prop} {l : List α} {z : α} (h : ∀ y ∈ l, P y) (hz : P z) : ∀ y ∈ l ++ [z], P y := fun y hy => by
  rcases List.mem_append.1 hy with hy | hy
  · exact h y hy
  · rw [List.mem_singleton.1 hy]; exact hz
/-- One node more. -/
theorem St.In.push (h : x.In lo hi W) {y : Nd} {m : Nat} (hy : y.h.In m W.heap.size W) (hm : hi ≤ m) (hlm : lo ≤ m) {a' : Option Addr} {c' : Nat}
    (hown : W'.ownsRow lo 56 4 (.slice a' (x.ns.length + 1) c') (x.ns.length + 1) (ndVals (x.ns ++ [y]))) (hg : W.grownBy W' x.va.ownBlock)
    (hat : (Value.slice a' (x.ns.length + 1) c').ownBlock = x.va.ownBlock ∨ (Value.slice a' (x.ns.length + 1) c').ownBlock = some W.heap.size) :
    St.In lo W'.heap.size W' { x with a := a', ca := c', ns := x.ns ++ [y] } := by
  have hz := hg.size
  have hle := h.le
  have hnew : ∀ k, (Value.slice a' (x.ns.length + 1) c').ownBlock = some k → x.vb.ownBlock ≠ some k ∧ (∀ p ∈ x.ns.map Nd.hs, ¬ p k) ∧ ¬ y.hs k := by
    intro k hk
    rcases hat with e | e
    · rw [hk] at e
      refine ⟨h.ab k e.symm, h.an k e.symm, fun hyk => ?_⟩
      have := (hy.has_lt hyk).1
      have := h.nodes.2.2 k e.symm
      omega
    · rw [hk] at e
      have ek : k = W.heap.size := Option.some.inj e
      subst ek
      refine ⟨fun hb => ?_, fun p hp hpk => ?_, fun hyk => ?_⟩
      · have := h.next.2.2 _ hb; omega
      · obtain ⟨z, hz', rfl⟩ := List.mem_map.1 hp
        have := ((h.each z hz').has_lt hpk).2; omega
      · have := (hy.has_lt hyk).2; omega
  have keep : ∀ k, k < W.heap.size → x.va.ownBlock ≠ some k → W'.heap[k]? = W.heap[k]? := fun k hk hne => hg.block k hk (fun e => hne e.symm)
  have hlen : (x.ns ++ [y]).length = x.ns.length + 1 := by simp
  refine ⟨?_, ?_, ?_, ?_, ?_, ?_, ?_⟩
  · show OwnIn lo W'.heap.size W' 56 4 (.slice a' (x.ns ++ [y]).length c') (x.ns ++ [y]).length (ndVals (x.ns ++ [y]))
    rw [hlen]
    exact OwnIn.of hown
  · exact (h.next.same hz fun k hk => keep k (by have := h.next.2.2 k hk; omega) (fun e => h.ab k e hk)).mono (Nat.le_refl _) (by omega) (Nat.le_refl _)
  · refine mem_snoc (fun z hz' => ?_) ?_
    · exact ((h.each z hz').same hz fun k hk => keep k (by have := ((h.each z hz').has_lt hk).2; omega) (fun e => h.an k e _ (List.mem_map.2 ⟨z, hz', rfl⟩) hk)).mono (Nat.le_refl _) (by omega) (Nat.le_refl _)
    · exact (hy.same hz fun k hk => keep k (hy.has_lt hk).2 (fun e => by have := (hy.has_lt hk).1; have := h.nodes.2.2 k e; omega)).mono hlm (by omega) (Nat.le_refl _)
  · show ((x.ns ++ [y]).map Nd.hs).Pairwise _
    rw [List.map_append, List.pairwise_append]
    refine ⟨h.rows, List.pairwise_singleton _ _, fun p hp q hq k hk hk2 => ?_⟩
    obtain ⟨z, hz', rfl⟩ := List.mem_map.1 hp
    have e : q = y.hs := by simpa using hq
    subst e
    have := ((h.each z hz').has_lt hk).2
    have := (hy.has_lt hk2).1
    omega
  · intro k hk
    exact (hnew k (by rw [← hlen]; exact hk)).1
  · intro k hk p hp
    have hn := hnew k (by rw [← hlen]; exact hk)
    simp only [List.map_append, List.mem_append, List.map_cons, List.map_nil, List.mem_singleton] at hp
    rcases hp with hp | rfl
    · exact hn.2.1 p hp
    · exact hn.2.2
  · intro k hk p hp
    simp only [List.map_append, List.mem_append, List.map_cons, List.map_nil, List.mem_singleton] at hp
    rcases hp with hp | rfl
    · exact h.bn k hk p hp
    · intro hyk
      have := (hy.has_lt hyk).1
      have := h.next.2.2 k hk
      omega
/-- One pair more. -/
theorem St.In.pair (h : x.In lo hi W) {z : Int} {b' : Option Addr} {c' : Nat}
    (hown : W'.ownsRow lo 3 1 (.slice b' (x.zs.length + 1) c') (x.zs.length + 1) (intVals (x.zs ++ [z]))) (hg : W.grownBy W' x.vb.ownBlock)
    (hat : (Value.slice b' (x.zs.length + 1) c').ownBlock = x.vb.ownBlock ∨ (Value.slice b' (x.zs.length + 1) c').ownBlock = some W.heap.size) :
    St.In lo W'.heap.size W' { x with b := b', cb := c', zs := x.zs ++ [z] } := by
  have hz := hg.size
  have hle := h.le
  have hnew : ∀ k, (Value.slice b' (x.zs.length + 1) c').ownBlock = some k → x.va.ownBlock ≠ some k ∧ (∀ p ∈ x.ns.map Nd.hs, ¬ p k) := by
    intro k hk
    rcases hat with e | e
    · rw [hk] at e
      exact ⟨fun ha => h.ab k ha e.symm, h.bn k e.symm⟩
    · rw [hk] at e
      have ek : k = W.heap.size := Option.some.inj e
      subst ek
      refine ⟨fun ha => ?_, fun p hp hpk => ?_⟩
      · have := h.nodes.2.2 _ ha; omega
      · obtain ⟨z, hz', rfl⟩ := List.mem_map.1 hp
        have := ((h.each z hz').has_lt hpk).2; omega
  have keep : ∀ k, k < W.heap.size → x.vb.ownBlock ≠ some k → W'.heap[k]? = W.heap[k]? := fun k hk hne => hg.block k hk (fun e => hne e.symm)
  have hlen : (x.zs ++ [z]).length = x.zs.length + 1 := by simp
  refine ⟨?_, ?_, ?_, h.rows, ?_, ?_, ?_⟩
  · exact (h.nodes.same hz fun k hk => keep k (by have := h.nodes.2.2 k hk; omega) (fun e => h.ab k hk e)).mono (Nat.le_refl _) (by omega) (Nat.le_refl _)
  · show OwnIn lo W'.heap.size W' 3 1 (.slice b' (x.zs ++ [z]).length c') (x.zs ++ [z]).length (intVals (x.zs ++ [z]))
    rw [hlen]
    exact OwnIn.of hown
  · intro y hy
    exact ((h.each y hy).same hz fun k hk => keep k (by have := ((h.each y hy).has_lt hk).2; omega) (fun e => h.bn k e _ (List.mem_map.2 ⟨y, hy, rfl⟩) hk)).mono (Nat.le_refl _) (by omega) (Nat.le_refl _)
  · intro k hk hk2
    exact (hnew k (by rw [← hlen]; exact hk2)).1 hk
  · exact h.an
  · intro k hk p hp
    exact (hnew k (by rw [← hlen]; exact hk)).2 p hp
end
end Go.Proofs.YtglcailcdcpadaaGreatDoor
