/-
  Maps that a call makes, keyed by pointers or by structs with pointers, all of whose values are one and the same: what a look-up, a store, a range give. Nothing here knows of the program's text.
-/
import Derived.Maps.RangeRun
import Derived.Maps.OwnOps
import Derived.LaidEql
import Derived.Test.YtplchhahjmoodaaGreatDoorZ02
import Derived.Test.YtplchhahjmoodaaGreatDoorZ06
namespace Go.Proofs.YtplchhahjmoodaaGreatDoor
open Go Go.RowKit Go.MapKept Go.ChangeMaps

/-- What the keys of a map are compared by. -/
structure PKey (P : Program) (k : TypeId) (good : World → Prop) (ok : Value → Prop) : Prop where
  check : ∀ (w : World) (em : Bool) (v : Value), ok v → (Instr.checkKey em 10000 k v).run P w = .ok () w
  eq : ∀ (w : World) (a b : Value), good w → ok a → ok b → ∃ r : Bool, (Op.equal k a b).run P w = .ok r w ∧ (r = true ↔ a = b)
  now : ∀ d, P.underlying k = some d → ∀ a b : Value, Instr.sameNow d a b = none
  row : ∃ d, P.underlying k = some d

section
variable {P : Program} {k : TypeId} {good : World → Prop} {ok : Value → Prop}
theorem PKey.asks (K : PKey P k good ok) (w : World) (hg : good w) (x : Value) (hx : ok x) : ∀ (es : List MapEntry) (i : Nat), (∀ e ∈ es, ok e.key) →
    ((Instr.findAsking k x es i).run P w = .ok none w ∧ ∀ e ∈ es, e.key ≠ x) ∨ ∃ j e, (Instr.findAsking k x es i).run P w = .ok (some (i + j, e.val)) w ∧ es[j]? = some e ∧ e.key = x
  | [], i, _ => .inl ⟨rfl, by simp⟩
  | e :: es, i, h => by
    obtain ⟨r, hr, hiff⟩ := K.eq w x e.key hg hx (h e (.head _))
    cases r with
    | true => exact .inr ⟨0, e, by simp [Instr.findAsking, hr, Result.andThen], rfl, (hiff.1 rfl).symm⟩
    | false =>
      have hne : e.key ≠ x := fun q => by have := hiff.2 q.symm; cases this
      rcases K.asks w hg x hx es (i + 1) (fun y hy => h y (.tail _ hy)) with ⟨h1, h2⟩ | ⟨j, e', h1, h2, h3⟩
      · refine .inl ⟨by simp [Instr.findAsking, hr, Result.andThen, h1], fun y hy => ?_⟩
        cases hy with
        | head => exact hne
        | tail _ hy => exact h2 y hy
      · exact .inr ⟨j + 1, e', by simp [Instr.findAsking, hr, Result.andThen, h1]; omega, by simpa using h2, h3⟩
theorem PKey.find (K : PKey P k good ok) (w : World) (hg : good w) (x : Value) (hx : ok x) (es : List MapEntry) (h : ∀ e ∈ es, ok e.key) :
    ((Instr.findKey k x es).run P w = .ok none w ∧ ∀ e ∈ es, e.key ≠ x) ∨ ∃ j e, (Instr.findKey k x es).run P w = .ok (some (j, e.val)) w ∧ es[j]? = some e ∧ e.key = x := by
  obtain ⟨d, hd⟩ := K.row
  cases es with
  | nil => exact .inl ⟨by simp [Instr.findKey, run_underlying hd, Instr.findNow, Result.andThen], by simp⟩
  | cons e es =>
    have hn : Instr.findNow d x (e :: es) 0 = none := by simp [Instr.findNow, K.now d hd]
    have := K.asks w hg x hx (e :: es) 0 h
    simpa [Instr.findKey, run_underlying hd, hn, Result.andThen] using this
end

/-- A map's block: its keys, in the order in which they came; all its values are x. -/
structure PMap (w : World) (b : Nat) (ok : Value → Prop) (ks : List Value) (x : Value) (es : Array MapEntry) (clock : Nat) : Prop where
  at_ : w.heap[b]? = some (.map es clock)
  keys : es.toList.map (·.key) = ks
  vals : ∀ e ∈ es.toList, e.val = x
  st : Stamped es clock
  ok : ∀ v ∈ ks, ok v
/-- The same, not naming the block's content. -/
def PM (w : World) (b : Nat) (ok : Value → Prop) (ks : List Value) (x : Value) : Prop := ∃ es clock, PMap w b ok ks x es clock

section
variable {P : Program} {k e t : TypeId} {good : World → Prop} {ok : Value → Prop} {w w' : World} {b : Nat} {ks : List Value} {x : Value}
theorem PM.lt (h : PM w b ok ks x) : b < w.heap.size := by
  obtain ⟨es, clock, h⟩ := h
  exact (Array.getElem?_eq_some_iff.1 h.at_).1
theorem PM.block (h : PM w b ok ks x) (hb : w'.heap[b]? = w.heap[b]?) : PM w' b ok ks x := by
  obtain ⟨es, clock, h⟩ := h
  exact ⟨es, clock, hb.trans h.at_, h.keys, h.vals, h.st, h.ok⟩
theorem PM.below (h : PM w b ok ks x) (hb : Below w.heap.size w w') : PM w' b ok ks x := h.block (hb.block b h.lt)
theorem PM.turn {lo hi : Nat} (h : PM w b ok ks x) (t : Turn lo hi w w') (hd : b < lo ∨ hi ≤ b) : PM w' b ok ks x := h.block (t.block b h.lt hd)
theorem PM.nodup (h : PM w b ok ks x) : ks.Nodup := by
  obtain ⟨es, clock, h⟩ := h
  rw [← h.keys]
  exact h.st.2.2
theorem PM.made (w : World) (ok : Value → Prop) (x : Value) : PM (w.alloc (.map #[] 0)) w.heap.size ok [] x :=
  ⟨#[], 0, (heap_alloc w _).1, rfl, by simp, stamped_empty 0, by simp⟩
theorem PM.hit (h : PM w b ok ks x) (K : PKey P k good ok) (hg : good w) (ht : P.underlying t = some (.map k e)) {y : Value} (hy : y ∈ ks) : (Instr.lookup t (.map (some b)) y false).run P w = .ok x w := by
  obtain ⟨es, clock, h⟩ := h
  have hok := h.ok y hy
  have hkeys : ∀ e ∈ es.toList, ok e.key := fun e he => h.ok _ (by rw [← h.keys]; exact List.mem_map.2 ⟨e, he, rfl⟩)
  rcases K.find w hg y hok es.toList hkeys with ⟨_, h2⟩ | ⟨j, e, h1, h2, _⟩
  · rw [← h.keys] at hy
    obtain ⟨e, he, hk⟩ := List.mem_map.1 hy
    exact absurd hk (h2 e he)
  · have hv := h.vals e (List.mem_of_getElem? h2)
    simp [Instr.lookup, run_underlying ht, MapKept.run_getObj_map h.at_, K.check w _ y hok, h1, hv, Result.andThen]
theorem PM.miss (h : PM w b ok ks x) (K : PKey P k good ok) (hg : good w) (ht : P.underlying t = some (.map k e)) {y z : Value} (hok : ok y) (hy : y ∉ ks) (hz : (zeroValue e).run P w = .ok z w) : (Instr.lookup t (.map (some b)) y false).run P w = .ok z w := by
  obtain ⟨es, clock, h⟩ := h
  have hkeys : ∀ e ∈ es.toList, ok e.key := fun e he => h.ok _ (by rw [← h.keys]; exact List.mem_map.2 ⟨e, he, rfl⟩)
  rcases K.find w hg y hok es.toList hkeys with ⟨h1, _⟩ | ⟨j, e', h1, h2, h3⟩
  · simp [Instr.lookup, run_underlying ht, MapKept.run_getObj_map h.at_, K.check w _ y hok, h1, hz, Result.andThen]
  · exact absurd (by rw [← h.keys]; exact List.mem_map.2 ⟨e', List.mem_of_getElem? h2, h3⟩) hy
theorem PM.store (h : PM w b ok ks x) (K : PKey P k good ok) (hg : good w) (ht : P.underlying t = some (.map k e)) {y : Value} (hok : ok y) (hy : y ∉ ks) :
    ∃ w', (Instr.mapUpdate t (.map (some b)) y x).run P w = .ok () w' ∧ PM w' b ok (ks ++ [y]) x ∧ w.grownBy w' (some b) := by
  obtain ⟨es, clock, h⟩ := h
  have hkeys : ∀ e ∈ es.toList, ok e.key := fun e he => h.ok _ (by rw [← h.keys]; exact List.mem_map.2 ⟨e, he, rfl⟩)
  rcases K.find w hg y hok es.toList hkeys with ⟨h1, h4⟩ | ⟨j, e', h1, h2, h3⟩
  · refine ⟨_, by simp [Instr.mapUpdate, run_underlying ht, MapKept.run_getObj_map h.at_, K.check w _ y hok, h1, MapKept.run_setObj_map _ h.at_, Result.andThen]; rfl, ?_, ?_⟩
    · obtain ⟨g1, g2⟩ := heap_set (o' := .map (es.push { key := y, val := x, born := clock }) (clock + 1)) h.at_
      refine ⟨_, _, g1, ?_, ?_, stamped_push h.st h4, ?_⟩
      · simp [h.keys]
      · intro e he
        simp only [Array.toList_push, List.mem_append, List.mem_singleton] at he
        rcases he with he | rfl
        · exact h.vals e he
        · rfl
      · intro v hv
        rcases List.mem_append.1 hv with hv | hv
        · exact h.ok v hv
        · rw [List.mem_singleton.1 hv]
          exact hok
    · obtain ⟨_, g2⟩ := heap_set (o' := .map (es.push { key := y, val := x, born := clock }) (clock + 1)) h.at_
      exact ⟨rfl, rfl, rfl, by simp, fun j _ hne => g2 j (fun e => hne (by rw [e]))⟩
  · exact absurd (by rw [← h.keys]; exact List.mem_map.2 ⟨e', List.mem_of_getElem? h2, h3⟩) hy
theorem PM.len (h : PM w b ok ks x) (ht : P.underlying t = some (.map k e)) (ty : TypeId) : (Builtin.len_ #[t] ty #[.map (some b)]).run P w = .ok (.int .i64 ks.length) w := by
  obtain ⟨es, clock, h⟩ := h
  have hl : es.size = ks.length := by rw [← h.keys]; simp
  have := run_len_map (P := P) (w := w) t ty b es clock (by simp [Program.mapKeyOf, Program.mapElemOf, ht]) h.at_
  rw [this, hl]
  rfl

/-- A range over the map has begun: the iterator lies at r; the keys of 'ps' have come, in this order. -/
structure PRange (w : World) (b r : Nat) (ok : Value → Prop) (ks : List Value) (x : Value) (ps : List Value) : Prop where
  it : ∃ es clock seen, PMap w b ok ks x es clock ∧ w.heap[r]? = some (.mapIter (some b) clock seen clock) ∧ ps.Nodup ∧ (∀ e ∈ es.toList, e.born ∈ seen ↔ e.key ∈ ps) ∧ (∀ p ∈ ps, p ∈ ks) ∧ seen.size = ps.length
theorem PRange.owns {r : Nat} {ps : List Value} (h : PRange w b r ok ks x ps) : PM w b ok ks x := by
  obtain ⟨es, clock, seen, h, _⟩ := h.it
  exact ⟨es, clock, h⟩
theorem PRange.block {r : Nat} {ps : List Value} (h : PRange w b r ok ks x ps) (hb : w'.heap[b]? = w.heap[b]?) (hr : w'.heap[r]? = w.heap[r]?) : PRange w' b r ok ks x ps := by
  obtain ⟨es, clock, seen, h1, h2, h3⟩ := h.it
  exact ⟨es, clock, seen, ⟨hb.trans h1.at_, h1.keys, h1.vals, h1.st, h1.ok⟩, hr.trans h2, h3⟩
theorem PRange.nodup {r : Nat} {ps : List Value} (h : PRange w b r ok ks x ps) : ps.Nodup ∧ ∀ p ∈ ps, p ∈ ks := by
  obtain ⟨es, clock, seen, _, _, h3, _, h5, _⟩ := h.it
  exact ⟨h3, h5⟩
/-- How many keys have come, read off the iterator. -/
def comeAt (w : World) (r : Nat) : Nat := match w.heap[r]? with | some (.mapIter _ _ seen _) => seen.size | _ => 0
theorem PRange.come {r : Nat} {ps : List Value} (h : PRange w b r ok ks x ps) : comeAt w r = ps.length := by
  obtain ⟨es, clock, seen, _, h2, _, _, _, h6⟩ := h.it
  simp only [comeAt, h2]
  exact h6
theorem PRange.lt {r : Nat} {ps : List Value} (h : PRange w b r ok ks x ps) : r < w.heap.size := by
  obtain ⟨es, clock, seen, _, h2, _⟩ := h.it
  exact (Array.getElem?_eq_some_iff.1 h2).1
theorem PRange.below {r : Nat} {ps : List Value} (h : PRange w b r ok ks x ps) (hb : Below w.heap.size w w') : PRange w' b r ok ks x ps := h.block (hb.block b h.owns.lt) (hb.block r h.lt)
theorem PRange.turn {r lo hi : Nat} {ps : List Value} (h : PRange w b r ok ks x ps) (t : Turn lo hi w w') (hd : b < lo ∨ hi ≤ b) (hd2 : r < lo ∨ hi ≤ r) : PRange w' b r ok ks x ps := h.block (t.block b h.owns.lt hd) (t.block r h.lt hd2)
theorem PM.range (h : PM w b ok ks x) (ht : P.underlying t = some (.map k e)) : ∃ w', (Instr.range t (.map (some b))).run P w = .ok (.pointer (some ⟨w.heap.size, 0, none⟩)) w' ∧ PRange w' b w.heap.size ok ks x [] ∧ Below w.heap.size w w' ∧ w'.heap.size = w.heap.size + 1 := by
  obtain ⟨es, clock, h⟩ := h
  have hlt := (Array.getElem?_eq_some_iff.1 h.at_).1
  refine ⟨w.alloc (.mapIter (some b) clock #[] clock), ?_, ⟨es, clock, #[], ⟨((heap_alloc w _).2 b hlt).trans h.at_, h.keys, h.vals, h.st, h.ok⟩, (heap_alloc w _).1, List.nodup_nil, by simp, by simp, rfl⟩, (Below.refl _ _).alloc (Nat.le_refl _) _, by simp⟩
  simp [Instr.range, run_underlying ht, MapKept.run_getObj_map h.at_, Result.andThen]
/-- A step: either all keys have come, or a further one comes. -/
theorem PRange.next {r : Nat} {ps : List Value} (h : PRange w b r ok ks x ps) (hne : b ≠ r) :
    ((∀ y ∈ ks, y ∈ ps) ∧ ∀ ty, (Instr.next (.pointer (some ⟨r, 0, none⟩)) false ty).run P w = .ok (.tuple #[.bool false]) w) ∨
    ∃ y w', y ∈ ks ∧ y ∉ ps ∧ (∀ ty, (Instr.next (.pointer (some ⟨r, 0, none⟩)) false ty).run P w = .ok (.tuple #[.bool true, y, x]) w') ∧ PRange w' b r ok ks x (ps ++ [y]) ∧ Turn r (r + 1) w w' ∧
      ∀ W, W.heap[b]? = w'.heap[b]? → W.heap[r]? = w'.heap[r]? → (Instr.entry (.pointer (some ⟨r, 0, none⟩))).run P W = .ok (.tuple #[y, x]) W := by
  obtain ⟨es, clock, seen, h1, h2, h3, h4, h5, h6⟩ := h.it
  rcases run_next_at (P := P) w 0 r b clock clock seen es clock h2 h1.at_ h1.st.1 (Nat.le_refl _) with ⟨g1, g2⟩ | ⟨e, he, w1, hw1, hrun⟩
  · refine .inl ⟨fun y hy => ?_, fun _ => g2⟩
    rw [← h1.keys] at hy
    obtain ⟨e, he, rfl⟩ := List.mem_map.1 hy
    refine (h4 e he).1 ?_
    have hl : leftOf es seen = #[] := Array.eq_empty_of_size_eq_zero g1
    unfold leftOf at hl
    have := (Array.filter_eq_empty_iff.1 hl) e (by simpa using he)
    simpa using this
  · have hin : e ∈ es.toList ∧ e.born ∉ seen := by
      unfold leftOf at he
      simp only [Array.mem_toList_iff, Array.mem_filter] at he
      exact ⟨by simpa using he.1, by simpa using he.2⟩
    have hkey : e.key ∈ ks := by rw [← h1.keys]; exact List.mem_map.2 ⟨e, hin.1, rfl⟩
    have hnot : e.key ∉ ps := fun hp => hin.2 ((h4 e hin.1).2 hp)
    have hval := h1.vals e hin.1
    rw [hval] at hrun
    have hw1h : w1.heap = w.heap := by rcases hw1 with rfl | rfl <;> rfl
    have hw1os : w1.os = w.os ∧ w1.tape = w.tape ∧ w1.output = w.output := by rcases hw1 with rfl | rfl <;> exact ⟨rfl, rfl, rfl⟩
    have hrlt : r < w1.heap.size := by rw [hw1h]; exact (Array.getElem?_eq_some_iff.1 h2).1
    have hat : ∀ j, (setBlock w1 r (.mapIter (some b) clock (seen.push e.born) clock)).heap[j]? = if r = j then some (.mapIter (some b) clock (seen.push e.born) clock) else w.heap[j]? := fun j => by
      rw [← hw1h]
      simp only [setBlock, Array.getElem?_setIfInBounds]
      by_cases hj : r = j
      · subst hj
        simp [hrlt]
      · simp [hj]
    have hborn : ∀ f ∈ es.toList, f.born = e.born → f = e := fun f hf hfe => by
      have hnd := h1.st.2.1
      obtain ⟨i, hi, rfl⟩ := List.mem_iff_getElem.1 hf
      obtain ⟨j, hj, rfl⟩ := List.mem_iff_getElem.1 hin.1
      have := (List.getElem_inj (h₀ := by simpa using hi) (h₁ := by simpa using hj) hnd).1 (by simpa using hfe)
      subst this
      rfl
    have hkeyi : ∀ f ∈ es.toList, f.key = e.key → f = e := fun f hf hfe => by
      have hnd := h1.st.2.2
      obtain ⟨i, hi, rfl⟩ := List.mem_iff_getElem.1 hf
      obtain ⟨j, hj, rfl⟩ := List.mem_iff_getElem.1 hin.1
      have := (List.getElem_inj (h₀ := by simpa using hi) (h₁ := by simpa using hj) hnd).1 (by simpa using hfe)
      subst this
      rfl
    refine .inr ⟨e.key, _, hkey, hnot, fun _ => hrun, ⟨es, clock, seen.push e.born, ⟨?_, h1.keys, h1.vals, h1.st, h1.ok⟩, ?_, ?_, ?_, ?_, by simp [h6]⟩, ?_, ?_⟩
    · rw [hat, if_neg (fun e => hne e.symm)]
      exact h1.at_
    · rw [hat, if_pos rfl]
    · refine List.nodup_append.2 ⟨h3, by simp, fun a ha c hc => ?_⟩
      rw [List.mem_singleton.1 hc]
      exact fun e => hnot (e ▸ ha)
    · intro f hf
      rw [Array.mem_push, List.mem_append, List.mem_singleton, h4 f hf]
      constructor
      · rintro (hq | hq)
        · exact .inl hq
        · exact .inr (by rw [hborn f hf hq])
      · rintro (hq | hq)
        · exact .inl hq
        · exact .inr (by rw [hkeyi f hf hq])
    · intro p hp
      rcases List.mem_append.1 hp with hp | hp
      · exact h5 p hp
      · rw [List.mem_singleton.1 hp]
        exact hkey
    · refine ⟨hw1os.1, hw1os.2.1, hw1os.2.2, ?_, fun j hj hd => ?_⟩
      · simp [setBlock, hw1h]
      · rw [hat, if_neg (by omega)]
    · intro W hWb hWr
      rw [hat, if_neg (fun e => hne e.symm)] at hWb
      rw [hat, if_pos rfl] at hWr
      have := run_entry_at (P := P) W r b clock seen es clock e hWr (hWb.trans h1.at_) hin.1 h1.st.2.1
      rw [this, hval]
end

/-! ### Pointers as keys -/
/-- A block of cells, none of them frozen. -/
def Plain (w : World) (b : Nat) : Prop := ∃ c t, w.heap[b]? = some (.cells c t (0, 0))
theorem Plain.lt {w : World} {b : Nat} (h : Plain w b) : b < w.heap.size := by
  obtain ⟨c, t, h⟩ := h
  exact (Array.getElem?_eq_some_iff.1 h).1
theorem Plain.block {w w' : World} {b : Nat} (h : Plain w b) (hb : w'.heap[b]? = w.heap[b]?) : Plain w' b := by
  obtain ⟨c, t, h⟩ := h
  exact ⟨c, t, hb.trans h⟩
theorem Plain.below {w w' : World} {b B : Nat} (h : Plain w b) (hB : Below B w w') (hb : b < B) : Plain w' b := h.block (hB.block b hb)
theorem Plain.owned {w : World} {base e size n c : Nat} {g : Nat} {xs : List Value} (h : w.ownsRow base e size (.slice (some ⟨g, 0, none⟩) n c) n xs) : Plain w g := by
  rcases h.2 with ⟨hv, _⟩ | ⟨g', cap, cur, hv, _, hg, _⟩
  · cases hv
  · injection hv with ha _ _
    injection ha with ha
    injection ha with ha _ _
    subst ha
    exact ⟨_, _, hg⟩
theorem run_sameAddr {P : Program} {w : World} {a b : Addr} (ha : Plain w a.block) (hb : Plain w b.block) : ∃ r : Bool, (sameAddr a b).run P w = .ok r w ∧ (r = true ↔ a = b) := by
  by_cases h : a = b
  · subst h
    exact ⟨true, run_sameAddr_same w a, by simp⟩
  · obtain ⟨ca, ta, ha⟩ := ha
    obtain ⟨cb, tb, hb⟩ := hb
    exact ⟨false, run_sameAddr_other w h ha hb, by simp [h]⟩
/-- Pointers into a set of blocks. -/
def PtrOk (bs : Nat → Prop) (v : Value) : Prop := ∃ a : Addr, v = .pointer (some a) ∧ bs a.block
def AllPlain (bs : Nat → Prop) (w : World) : Prop := ∀ b, bs b → Plain w b
theorem equal_ptr {P : Program} {k e : TypeId} {n : Nat} (hk : P.underlying k = some (.pointer e)) (hs : ∀ w, (sizeOf e).run P w = .ok (n + 1) w) (bs : Nat → Prop) (d : Nat) (w : World) (a b : Value) (hg : AllPlain bs w) (ha : PtrOk bs a) (hb : PtrOk bs b) :
    ∃ r : Bool, (Op.equalIn (d + 1) k a b).run P w = .ok r w ∧ (r = true ↔ a = b) := by
  obtain ⟨x, rfl, hx⟩ := ha
  obtain ⟨y, rfl, hy⟩ := hb
  obtain ⟨r, hr, hiff⟩ := run_sameAddr (P := P) (hg _ hx) (hg _ hy)
  refine ⟨r, ?_, by rw [hiff]; simp⟩
  simp [Op.equalIn, run_underlying hk, hs, hr, Result.andThen]
theorem check_ptr {P : Program} {k e : TypeId} (hk : P.underlying k = some (.pointer e)) (em : Bool) (n : Nat) (w : World) (a : Addr) : (Instr.checkKey em (n + 1) k (.pointer (some a))).run P w = .ok () w := by
  unfold Instr.checkKey
  simp only [Sem.run_bind, run_underlying hk, Result.andThen]
  rfl
theorem ptr_key {P : Program} {k e : TypeId} {n : Nat} (hk : P.underlying k = some (.pointer e)) (hs : ∀ w, (sizeOf e).run P w = .ok (n + 1) w) (bs : Nat → Prop) : PKey P k (AllPlain bs) (PtrOk bs) where
  check w em v h := by
    obtain ⟨a, rfl, _⟩ := h
    exact check_ptr hk em 9999 w a
  eq w a b hg ha hb := equal_ptr hk hs bs 9999 w a b hg ha hb
  now d hd a b := by
    rw [hk] at hd
    cases hd
    cases a <;> cases b <;> rfl
  row := ⟨_, hk⟩
end Go.Proofs.YtplchhahjmoodaaGreatDoor
