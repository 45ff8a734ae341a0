/-
  A region that draws its order, in which what is read is written only by operations that wait for all reads: the reads may come up first, in the text's order, under a condition on the world that those last operations need not keep. Nothing here knows of the program.
-/
import Derived.OrdersHeld
import Derived.Tactics
namespace Go.Proofs.YtglcailcdcpadaaGreatDoor
open Go

section
variable {P : Program} {ops : Array Oper} {Q : Exit → Act → World → Prop} {S : World → Prop} {B : Nat → Bool}

/-- Whatever order is drawn: behind each operation for which B says so, S holds. -/
def anyKeep (P : Program) (ops : Array Oper) (Q : Exit → Act → World → Prop) (S : World → Prop) (B : Nat → Bool) : Nat → Array Bool → Act → World → Prop
  | 0, listed, a, w => Region.ready .any ops listed = [] ∧ Q .normal a w
  | f + 1, listed, a, w => (Region.ready .any ops listed = [] → Q .normal a w) ∧
      ∀ i ∈ Region.ready .any ops listed, wpOp P ops Q i (fun a' w' => (B i = true → S w') ∧ anyKeep P ops Q S B f (listed.setIfInBounds i true) a' w') a w
theorem anyKeep.forget : ∀ (f : Nat) (listed : Array Bool) (a : Act) (w : World), anyKeep P ops Q S B f listed a w → wpAny P .any ops Q f listed a w
  | 0, _, _, _, h => h
  | _ + 1, _, _, _, h => ⟨h.1, fun i hi => wpOp_mono (fun _ _ k => k.2.forget) (h.2 i hi)⟩
/-- Operations for which B does not speak wait for read i. -/
def waitB (ops : Array Oper) (B : Nat → Bool) (i : Nat) : Bool :=
  (List.range ops.size).all fun j => B j || match ops[j]? with
    | some o => o.after.any fun e => Region.binds .any e && e.on == i
    | none => true
theorem waitB_spec {i j : Nat} {o : Oper} (h : waitB ops B i = true) (hj : ops[j]? = some o) (hno : ∀ e ∈ o.after, Region.binds .any e = true → e.on ≠ i) : B j = true := by
  have h1 := List.all_eq_true.1 h j (List.mem_range.2 (Array.getElem?_eq_some_iff.1 hj).1)
  simp only [hj, Bool.or_eq_true] at h1
  rcases h1 with h1 | h1
  · exact h1
  · obtain ⟨e, he, h2⟩ := Array.any_eq_true'.1 h1
    simp only [Bool.and_eq_true, beq_iff_eq] at h2
    exact absurd h2.2 (hno e he h2.1)

/-- A read that may come up now may come up first. -/
theorem anyKeep.read {i : Nat} {oi : Oper} {v : Value} (hB : waitB ops B i = true) (hi : ops[i]? = some oi) (hs : Region.noSelect ops = true) (hQ : ∀ c a w, Q (.panic c) (a.put oi.dst v) w → Q (.panic c) a w) :
    ∀ (f : Nat) (listed : Array Bool) (a : Act) (w : World), (∀ j oj, ops[j]? = some oj → j ≠ i → listed.getD j true = false → (∀ e ∈ oj.after, Region.binds .any e = true → e.on ≠ i) → oi.apart ops oj = true) →
      i ∈ Region.ready .any ops listed → YieldsIf P ops S oi v a → S w → anyKeep P ops Q S B f (listed.setIfInBounds i true) (a.put oi.dst v) w → anyKeep P ops Q S B (f + 1) listed a w
  | f, listed, a, w, hfree, hr, hy, hS, H => by
    refine ⟨fun e => (by rw [e] at hr; cases hr), fun j hj => ?_⟩
    by_cases e : j = i
    · rw [e]
      exact hy.wpOp hi hS ⟨fun _ => hS, H⟩
    · have hun := (mem_ready.1 hr).1
      obtain ⟨hju, oj, hoj, hall⟩ := mem_ready.1 hj
      have hno : ∀ d ∈ oj.after, Region.binds .any d = true → d.on ≠ i := fun d hd hb he => by
        have h1 := hall d hd hb
        rw [he] at h1
        rcases Nat.lt_or_ge i listed.size with hl | hl
        · simp [hl] at h1 hun
          rw [h1] at hun
          cases hun
        · simp [Array.getElem?_eq_none hl] at h1
      have hkept := waitB_spec hB hoj hno
      match f, H with
      | 0, H =>
        have h1 := ready_mono hj e
        rw [H.1] at h1
        cases h1
      | f + 1, H =>
        refine wpOp_mono (fun a' w' k => ⟨fun _ => k.2.1 hkept, anyKeep.read hB hi hs hQ f _ a' w' (fun q oq hq hqi hqu hqn => hfree q oq hq hqi ?_ hqn) (ready_mono hr (Ne.symm e)) k.1 (k.2.1 hkept) ?_⟩)
          (wpOp_putIf hoj (hfree j oj hoj e hju hno) (fun cs b => Region.noSelect_spec hs i oi cs b hi) (fun cs b => Region.noSelect_spec hs j oj cs b hoj) hQ hy (H.2 j (ready_mono hj e)))
        · by_cases hjq : j = q
          · rw [← hjq]
            exact hju
          · rwa [getD_set_ne true hjq] at hqu
        · rw [Array.setIfInBounds_comm _ _ e]
          exact k.2.2
/-- .. in a walk: the side conditions as Bools. -/
theorem anyKeep.take {i f : Nat} {oi : Oper} {v : Value} {listed : Array Bool} {a : Act} {w : World} (hi : ops[i]? = some oi) (hB : waitB ops B i = true) (hs : Region.noSelect ops = true) (hf : Region.free .any ops listed i = true)
    (hr : (Region.ready .any ops listed).contains i = true) (hQ : ∀ c a w, Q (.panic c) (a.put oi.dst v) w → Q (.panic c) a w) (hg : oi.guard = none) (hy : ∀ w, S w → (execOp a.eval oi).run P w = .ok (.value v) w) (hS : S w)
    (h : anyKeep P ops Q S B f (listed.setIfInBounds i true) (a.put oi.dst v) w) : anyKeep P ops Q S B (f + 1) listed a w :=
  anyKeep.read hB hi hs hQ f listed a w (Region.free_spec hi hf) (by simpa using hr) (.inl ⟨by simp [Region.wanted, hg], hy⟩) hS h
/-- Only one operation may come up. -/
theorem anyKeep.one {k f : Nat} {o : Oper} {listed : Array Bool} {a : Act} {w : World} (hr : Region.ready .any ops listed = [k]) (hk : ops[k]? = some o)
    (h : ∀ K : Act → World → Prop, (∀ a' w', (B k = true → S w') → anyKeep P ops Q S B f (listed.setIfInBounds k true) a' w' → K a' w') → if Region.wanted o (yielded ops a.tmps) = true then Oper.wp P o a w K Q else K (a.put o.dst undef) w) :
    anyKeep P ops Q S B (f + 1) listed a w := by
  refine ⟨fun e => (by rw [hr] at e; cases e), fun i hi => ?_⟩
  rw [hr] at hi
  obtain rfl := List.mem_singleton.1 hi
  have h1 := h (fun a' w' => (B i = true → S w') ∧ anyKeep P ops Q S B f (listed.setIfInBounds i true) a' w') fun a' w' hS hh => ⟨hS, hh⟩
  unfold wpOp
  simp only [hk]
  split
  · rename_i hw
    rw [if_pos hw] at h1
    exact .inl h1
  · rename_i hw
    rw [if_neg hw] at h1
    exact h1
/-- Only two operations may come up. -/
theorem anyKeep.two {k1 k2 f : Nat} {o1 o2 : Oper} {listed : Array Bool} {a : Act} {w : World} (hr : Region.ready .any ops listed = [k1, k2]) (hk1 : ops[k1]? = some o1) (hk2 : ops[k2]? = some o2)
    (h1 : ∀ K : Act → World → Prop, (∀ a' w', (B k1 = true → S w') → anyKeep P ops Q S B f (listed.setIfInBounds k1 true) a' w' → K a' w') → if Region.wanted o1 (yielded ops a.tmps) = true then Oper.wp P o1 a w K Q else K (a.put o1.dst undef) w)
    (h2 : ∀ K : Act → World → Prop, (∀ a' w', (B k2 = true → S w') → anyKeep P ops Q S B f (listed.setIfInBounds k2 true) a' w' → K a' w') → if Region.wanted o2 (yielded ops a.tmps) = true then Oper.wp P o2 a w K Q else K (a.put o2.dst undef) w) :
    anyKeep P ops Q S B (f + 1) listed a w := by
  refine ⟨fun e => (by rw [hr] at e; cases e), fun i hi => ?_⟩
  rw [hr] at hi
  simp only [List.mem_cons, List.not_mem_nil, or_false] at hi
  rcases hi with rfl | rfl
  · have h3 := h1 (fun a' w' => (B i = true → S w') ∧ anyKeep P ops Q S B f (listed.setIfInBounds i true) a' w') fun a' w' hS hh => ⟨hS, hh⟩
    unfold wpOp
    simp only [hk1]
    split
    · rename_i hw
      rw [if_pos hw] at h3
      exact .inl h3
    · rename_i hw
      rw [if_neg hw] at h3
      exact h3
  · have h3 := h2 (fun a' w' => (B i = true → S w') ∧ anyKeep P ops Q S B f (listed.setIfInBounds i true) a' w') fun a' w' hS hh => ⟨hS, hh⟩
    unfold wpOp
    simp only [hk2]
    split
    · rename_i hw
      rw [if_pos hw] at h3
      exact .inl h3
    · rename_i hw
      rw [if_neg hw] at h3
      exact h3
/-- Only three operations may come up. -/
theorem anyKeep.three {k1 k2 k3 f : Nat} {o1 o2 o3 : Oper} {listed : Array Bool} {a : Act} {w : World} (hr : Region.ready .any ops listed = [k1, k2, k3]) (hk1 : ops[k1]? = some o1) (hk2 : ops[k2]? = some o2) (hk3 : ops[k3]? = some o3)
    (h1 : ∀ K : Act → World → Prop, (∀ a' w', (B k1 = true → S w') → anyKeep P ops Q S B f (listed.setIfInBounds k1 true) a' w' → K a' w') → if Region.wanted o1 (yielded ops a.tmps) = true then Oper.wp P o1 a w K Q else K (a.put o1.dst undef) w)
    (h2 : ∀ K : Act → World → Prop, (∀ a' w', (B k2 = true → S w') → anyKeep P ops Q S B f (listed.setIfInBounds k2 true) a' w' → K a' w') → if Region.wanted o2 (yielded ops a.tmps) = true then Oper.wp P o2 a w K Q else K (a.put o2.dst undef) w)
    (h3 : ∀ K : Act → World → Prop, (∀ a' w', (B k3 = true → S w') → anyKeep P ops Q S B f (listed.setIfInBounds k3 true) a' w' → K a' w') → if Region.wanted o3 (yielded ops a.tmps) = true then Oper.wp P o3 a w K Q else K (a.put o3.dst undef) w) :
    anyKeep P ops Q S B (f + 1) listed a w := by
  refine ⟨fun e => (by rw [hr] at e; cases e), fun i hi => ?_⟩
  rw [hr] at hi
  simp only [List.mem_cons, List.not_mem_nil, or_false] at hi
  rcases hi with rfl | rfl | rfl
  · have h3 := h1 (fun a' w' => (B i = true → S w') ∧ anyKeep P ops Q S B f (listed.setIfInBounds i true) a' w') fun a' w' hS hh => ⟨hS, hh⟩
    unfold wpOp
    simp only [hk1]
    split
    · rename_i hw
      rw [if_pos hw] at h3
      exact .inl h3
    · rename_i hw
      rw [if_neg hw] at h3
      exact h3
  · have h3 := h2 (fun a' w' => (B i = true → S w') ∧ anyKeep P ops Q S B f (listed.setIfInBounds i true) a' w') fun a' w' hS hh => ⟨hS, hh⟩
    unfold wpOp
    simp only [hk2]
    split
    · rename_i hw
      rw [if_pos hw] at h3
      exact .inl h3
    · rename_i hw
      rw [if_neg hw] at h3
      exact h3
  · have h3 := h3 (fun a' w' => (B i = true → S w') ∧ anyKeep P ops Q S B f (listed.setIfInBounds i true) a' w') fun a' w' hS hh => ⟨hS, hh⟩
    unfold wpOp
    simp only [hk3]
    split
    · rename_i hw
      rw [if_pos hw] at h3
      exact .inl h3
    · rename_i hw
      rw [if_neg hw] at h3
      exact h3
theorem anyKeep.done {f : Nat} {listed : Array Bool} {a : Act} {w : World} (hr : Region.ready .any ops listed = []) (h : Q .normal a w) : anyKeep P ops Q S B f listed a w := by
  cases f with
  | zero => exact ⟨hr, h⟩
  | succ f => exact ⟨fun _ => h, fun i hi => by rw [hr] at hi; cases hi⟩
theorem wp_region_keep {id : Nat} {a : Act} {w : World} (hm : P.follows .mixedOrders = true) (h : anyKeep P ops Q S B ops.size (Array.replicate ops.size false) a w.drew) : (Code.region id ops true).wp P Q a w :=
  wp_region_any hm (anyKeep.forget _ _ _ _ h)
end
end Go.Proofs.YtglcailcdcpadaaGreatDoor
