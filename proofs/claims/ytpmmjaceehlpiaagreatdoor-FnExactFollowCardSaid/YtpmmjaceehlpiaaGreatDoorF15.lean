/-
  A region that draws its order, in which what is read is written only by operations that wait for all reads: the reads may come up first, in the text's order, under a condition on the world that those last operations need not keep. Nothing here knows of the program.
  The model's heap without a cell.
-/
import Derived.OrdersHeld
import Derived.Tactics
import Derived.Deep.AppendLies
import Derived.Test.YtpmmjaceehlpiaaGreatDoorF13
namespace Go.Proofs.YtpmmjaceehlpiaaGreatDoor
open Go

section
variable {P : Program} {ops : Array Oper} {Q : Exit → Act → World → Prop} {S : World → Prop} {B : Nat → Bool}

/-- Whatever order is drawn: behind each operation for which B says so, S holds. -/
def anyKeep (P : Program) (ops : Array Oper) (Q : Exit → Act → World → Prop) (S : World → Prop) (B : Nat → Bool) : Nat → Array Bool → Act → World → Prop
  | 0, listed, a, w => Region.ready .any ops listed = [] ∧ Q .normal a w
  | f + 1, listed, a, w => (Region.ready .any ops listed = [] → Q .normal a w) ∧
      ∀ i ∈ Region.ready .any ops listed, wpOp P ops Q i (fun a' w' => (B i = true → S w') ∧ anyKeep P ops Q S B f (listed.setIfInBounds i true) a' w') a w
theorem anyKeep.forget : ∀ (f : Nat) (listed : Array Bool) (a : Act) (w : World), anyKeep P ops Q S B f listed a w → wpAny P .any ops Q f listed a w
  | 0, _, _, _, h => h
  | _ + 1, _, _, _, h => ⟨h.1, fun i hi => wpOp_mono (fun _ _ k => k.2.forget) (h.2 i hi)⟩
/-- Operations for which B does not speak wait for read i. -/
def waitB (ops : Array Oper) (B : Nat → Bool) (i : Nat) : Bool :=
  (List.range ops.size).all fun j => B j || match ops[j]? with
    | some o => o.after.any fun e => Region.binds .any e && e.on == i
    | none => true
theorem waitB_spec {i j : Nat} {o : Oper} (h : waitB ops B i = true) (hj : ops[j]? = some o) (hno : ∀ e ∈ o.after, Region.binds .any e = true → e.on ≠ i) : B j = true := by
  have h1 := List.all_eq_true.1 h j (List.mem_range.2 (Array.getElem?_eq_some_iff.1 hj).1)
  simp only [hj, Bool.or_eq_true] at h1
  rcases h1 with h1 | h1
  · exact h1
  · obtain ⟨e, he, h2⟩ := Array.any_eq_true'.1 h1
    simp only [Bool.and_eq_true, beq_iff_eq] at h2
    exact absurd h2.2 (hno e he h2.1)

/-- A read that may come up now may come up first. -/
theorem anyKeep.read {i : Nat} {oi : Oper} {v : Value} (hB : waitB ops B i = true) (hi : ops[i]? = some oi) (hs : Region.noSelect ops = true) (hQ : ∀ c a w, Q (.panic c) (a.put oi.dst v) w → Q (.panic c) a w) :
    ∀ (f : Nat) (listed : Array Bool) (a : Act) (w : World), (∀ j oj, ops[j]? = some oj → j ≠ i → listed.getD j true = false → (∀ e ∈ oj.after, Region.binds .any e = true → e.on ≠ i) → oi.apart ops oj = true) →
      i ∈ Region.ready .any ops listed → YieldsIf P ops S oi v a → S w → anyKeep P ops Q S B f (listed.setIfInBounds i true) (a.put oi.dst v) w → anyKeep P ops Q S B (f + 1) listed a w
  | f, listed, a, w, hfree, hr, hy, hS, H => by
    refine ⟨fun e => (by rw [e] at hr; cases hr), fun j hj => ?_⟩
    by_cases e : j = i
    · rw [e]
      exact hy.wpOp hi hS ⟨fun _ => hS, H⟩
    · have hun := (mem_ready.1 hr).1
      obtain ⟨hju, oj, hoj, hall⟩ := mem_ready.1 hj
      have hno : ∀ d ∈ oj.after, Region.binds .any d = true → d.on ≠ i := fun d hd hb he => by
        have h1 := hall d hd hb
        rw [he] at h1
        rcases Nat.lt_or_ge i listed.size with hl | hl
        · simp [hl] at h1 hun
          rw [h1] at hun
          cases hun
        · simp [Array.getElem?_eq_none hl] at h1
      have hkept := waitB_spec hB hoj hno
      match f, H with
      | 0, H =>
        have h1 := ready_mono hj e
        rw [H.1] at h1
        cases h1
      | f + 1, H =>
        refine wpOp_mono (fun a' w' k => ⟨fun _ => k.2.1 hkept, anyKeep.read hB hi hs hQ f _ a' w' (fun q oq hq hqi hqu hqn => hfree q oq hq hqi ?_ hqn) (ready_mono hr (Ne.symm e)) k.1 (k.2.1 hkept) ?_⟩)
          (wpOp_putIf hoj (hfree j oj hoj e hju hno) (fun cs b => Region.noSelect_spec hs i oi cs b hi) (fun cs b => Region.noSelect_spec hs j oj cs b hoj) hQ hy (H.2 j (ready_mono hj e)))
        · by_cases hjq : j = q
          · rw [← hjq]
            exact hju
          · rwa [getD_set_ne true hjq] at hqu
        · rw [Array.setIfInBounds_comm _ _ e]
          exact k.2.2
/-- .. in a walk: the side conditions as Bools. -/
theorem anyKeep.take {i f : Nat} {oi : Oper} {v : Value} {listed : Array Bool} {a : Act} {w : World} (hi : ops[i]? = some oi) (hB : waitB ops B i = true) (hs : Region.noSelect ops = true) (hf : Region.free .any ops listed i = true)
    (hr : (Region.ready .any ops listed).contains i = true) (hQ : ∀ c a w, Q (.panic c) (a.put oi.dst v) w → Q (.panic c) a w) (hg : oi.guard = none) (hy : ∀ w, S w → (execOp a.eval oi).run P w = .ok (.value v) w) (hS : S w)
    (h : anyKeep P ops Q S B f (listed.setIfInBounds i true) (a.put oi.dst v) w) : anyKeep P ops Q S B (f + 1) listed a w :=
  anyKeep.read hB hi hs hQ f listed a w (Region.free_spec hi hf) (by simpa using hr) (.inl ⟨by simp [Region.wanted, hg], hy⟩) hS h
/-- Only one operation may come up. -/
theorem anyKeep.one {k f : Nat} {o : Oper} {listed : Array Bool} {a : Act} {w : World} (hr : Region.ready .any ops listed = [k]) (hk : ops[k]? = some o)
    (h : ∀ K : Act → World → Prop, (∀ a' w', (B k = true → S w') → anyKeep P ops Q S B f (listed.setIfInBounds k true) a' w' → K a' w') → if Region.wanted o (yielded ops a.tmps) = true then Oper.wp P o a w K Q else K (a.put o.dst undef) w) :
    anyKeep P ops Q S B (f + 1) listed a w := by
  refine ⟨fun e => (by rw [hr] at e; cases e), fun i hi => ?_⟩
  rw [hr] at hi
  obtain rfl := List.mem_singleton.1 hi
  have h1 := h (fun a' w' => (B i = true → S w') ∧ anyKeep P ops Q S B f (listed.setIfInBounds i true) a' w') fun a' w' hS hh => ⟨hS, hh⟩
  unfold wpOp
  simp only [hk]
  split
  · rename_i hw
    rw [if_pos hw] at h1
    exact .inl h1
  · rename_i hw
    rw [if_neg hw] at h1
    exact h1
theorem anyKeep.done {f : Nat} {listed : Array Bool} {a : Act} {w : World} (hr : Region.ready .any ops listed = []) (h : Q .normal a w) : anyKeep P ops Q S B f listed a w := by
  cases f with
  | zero => exact ⟨hr, h⟩
  | succ f => exact ⟨fun _ => h, fun i hi => by rw [hr] at hi; cases hi⟩
theorem wp_region_keep {id : Nat} {a : Act} {w : World} (hm : P.follows .mixedOrders = true) (h : anyKeep P ops Q S B ops.size (Array.replicate ops.size false) a w.drew) : (Code.region id ops true).wp P Q a w :=
  wp_region_any hm (anyKeep.forget _ _ _ _ h)
end
end Go.Proofs.YtpmmjaceehlpiaaGreatDoor

namespace Go.Proofs.YtpmmjaceehlpiaaGreatDoor
open Go Go.RowKit Go.ChangeShapes Go.WideShapes Go.ChangeAt

/-- What the walk keeps: the argument's box, the answer's box, the heap so far in a box. -/
structure So (w : World) (u0 u1 x y : Value) (W : World) : Prop where
  below : Below w.heap.size w W
  arg : BoxL W w.heap.size [u0, u1]
  res : BoxL W (w.heap.size + 1) [.slice none 0 0, .slice none 0 0]
  out : BoxL W (w.heap.size + 2) [x, y]
section
variable {w W W' : World} {u0 u1 x y : Value} {lo hi : Nat}
theorem So.turn (h : So w u0 u1 x y W) (t : Turn lo hi W W') (hl : w.heap.size + 3 ≤ lo) : So w u0 u1 x y W' :=
  ⟨t.below h.below (by omega) h.below.size, h.arg.turn t (.inl (by omega)), h.res.turn t (.inl (by omega)), h.out.turn t (.inl (by omega))⟩
theorem So.call (h : So w u0 u1 x y W) (hb : Below W.heap.size W W') : So w u0 u1 x y W' :=
  ⟨h.below.trans (hb.mono h.below.size), h.arg.below hb, h.res.below hb, h.out.below hb⟩
theorem So.set0 (h : So w u0 u1 x y W) (u : Value) : So w u0 u1 u y (W.setCell ⟨w.heap.size + 2, 0, none⟩ u) :=
  have ts := turn_set W (w.heap.size + 2) 0 u
  ⟨h.below.setCell (by show w.heap.size ≤ w.heap.size + 2; omega) u, h.arg.turn ts (.inl (by omega)), h.res.turn ts (.inl (by omega)), h.out.set 0 u⟩
theorem So.set1 (h : So w u0 u1 x y W) (u : Value) : So w u0 u1 x u (W.setCell ⟨w.heap.size + 2, 1, none⟩ u) :=
  have ts := turn_set W (w.heap.size + 2) 1 u
  ⟨h.below.setCell (by show w.heap.size ≤ w.heap.size + 2; omega) u, h.arg.turn ts (.inl (by omega)), h.res.turn ts (.inl (by omega)), h.out.set 1 u⟩
end

def bitZ (t : Bool) : Int := if t then 1 else 0
theorem specBit (t : Bool) (w : World) : Calls Tryz.prog 166 #[.bool t] w fun e w' => e = .returned (.int .i64 (bitZ t)) ∧ w = w' := by
  cases t
  all_goals
    go_enter Tryz.func166, Tryz.ntmps166
    go_wp2
    go_ret
    exact ⟨rfl, rfl⟩
/-- A row without its c-th element, so far. -/
def lessL (zs : List Int) (c k : Nat) : List Int := (zs.take k).eraseIdx c
theorem lessL_skip {zs : List Int} {c : Nat} (h : c < zs.length) : lessL zs c (c + 1) = lessL zs c c := by
  have hl : (zs.take c).length = c := by simp; omega
  unfold lessL
  rw [take_next zs c h, List.eraseIdx_append_of_length_le (by omega), hl, Nat.sub_self, List.eraseIdx_of_length_le (l := zs.take c) (by omega)]
  simp
theorem lessL_next {zs : List Int} {c k : Nat} (h : k < zs.length) (hne : k ≠ c) : lessL zs c (k + 1) = lessL zs c k ++ [zs[k]] := by
  unfold lessL
  rw [take_next zs k h]
  by_cases hk : c < k
  · rw [List.eraseIdx_append_of_lt_length (by simp; omega)]
  · rw [List.eraseIdx_of_length_le (by simp; omega), List.eraseIdx_of_length_le (by simp; omega)]

theorem lessL_le {zs : List Int} {c k : Nat} : (lessL zs c k).length ≤ k := Nat.le_trans (List.length_eraseIdx_le _ _) (by simp; omega)

set_option maxRecDepth 100000 in
set_option maxHeartbeats 3200000 in
theorem specWithout (c : Nat) (a b : Option Addr) (ca cb : Nat) (vs zs : List Int) (w : World) (hv : vs.length ≤ 4) (hz : zs.length ≤ 6) (hc : c < zs.length) (hbv : ∀ x ∈ vs, -1 ≤ x ∧ x ≤ 6) (hbz : ∀ x ∈ zs, -1 ≤ x ∧ x ≤ 6) (h : HeapAt w a b vs zs) :
    Calls Tryz.prog 158 #[heV a vs.length ca b zs.length cb, .int .i64 (c : Int)] w (MadeHeap (vs.map (lowC c)) ((zs.eraseIdx c).map (lowC c)) w) := by
  obtain ⟨i0, hi, hz0, hz1, hz2⟩ := info_parts intInfoH
  have HAT := Lib.hid h
  have HBV := Lib.hid hbv
  have HBZ := Lib.hid hbz
  clear h hbv hbz
  go_enter Tryz.func158, Tryz.ntmps158
  go_wp2
  obtain ⟨W0, hW0, hb0, ba0, br0, bo0⟩ := three_boxL w [.slice a vs.length ca, .slice b zs.length cb] [.slice none 0 0, .slice none 0 0] [.slice none 0 0, .slice none 0 0] 30 30 30
  replace hW0 : ((w.alloc (.cells #[.slice a vs.length ca, .slice b zs.length cb] 30)).alloc (.cells #[.slice none 0 0, .slice none 0 0] 30)).alloc (.cells #[.slice none 0 0, .slice none 0 0] 30) = W0 := hW0
  rw [hW0]
  clear hW0
  have hS0 : So w (.slice a vs.length ca) (.slice b zs.length cb) (.slice none 0 0) (.slice none 0 0) W0 := ⟨hb0, ba0, br0, bo0⟩
  clear hb0 ba0 br0 bo0
  go_loopw [6] (fun i wr => ∃ (k : Nat) (v : Value), k ≤ vs.length ∧ i = .int .i64 k ∧ So w (.slice a vs.length ca) (.slice b zs.length cb) v (.slice none 0 0) wr ∧ wr.ownsRow (w.heap.size + 3) 3 1 v k (intVals ((vs.take k).map (lowC c))))
    (fun i _ => vs.length - (intOf i).toNat)
  case atStart => exact ⟨0, _, Nat.zero_le _, rfl, hS0, World.ownsRow_nil _ _ _ _⟩
  case round =>
    clear hS0
    obtain ⟨k, v, hk, rfl, hS, hown⟩ := hrel
    obtain ⟨va, vca, rfl, hvc⟩ := own_shape hown
    have q0 := hS.arg.c 0 _ rfl
    have o0 := hS.out.c 0 _ rfl
    have hlt3 := hS.out.lt
    by_cases hlt : k < vs.length
    · obtain ⟨bv, ov, ha, hbv, hcv⟩ := HAT.out.v k _ (intVals_at vs k hlt)
      have hbd := HBV.out _ (List.getElem_mem hlt)
      have hnx := map_take_next (lowC c) vs k hlt
      have HNX := Lib.hid hnx
      generalize vs[k] = x at *
      clear hnx
      subst ha
      have HD := Lib.hid (hS.call (Below.drew (Below.refl _ _)))
      have HO := Lib.hid (own_drew hown)
      clear hS hown
      obtain ⟨tb, htb⟩ : ∃ tb, decide ((c : Int) < x) = tb := ⟨_, rfl⟩
      have hlow : IntKind.i64.wrap (x - bitZ tb) = lowC c x := by
        rw [IntKind.wrap_i64]
        unfold lowC bitZ
        rw [← htb]
        by_cases hx : (c : Int) < x
        · simp only [hx, decide_true, if_true]
          omega
        · simp only [hx, decide_false, if_false, Bool.false_eq_true]
          omega
      generalize lowC c x = lx at *
      have hSof : ∀ W, So w (.slice (some ⟨bv, ov, none⟩) vs.length ca) (.slice b zs.length cb) (.slice va k vca) (.slice none 0 0) W → W.cell? ⟨w.heap.size + 2, 0, none⟩ = some (.slice va k vca) ∧ W.cell? ⟨w.heap.size, 0, none⟩ = some (.slice (some ⟨bv, ov, none⟩) vs.length ca) ∧ W.cell? ⟨bv, ov + k, none⟩ = some (.int .i64 x) := fun W h =>
        ⟨h.out.c 0 _ rfl, h.arg.c 0 _ rfl, (h.below.cell (p := ⟨bv, ov + k, none⟩) hbv).trans hcv⟩
      have hSd := hSof _ HD.out
      go_wp2
      refine wp_region_keep (S := fun W => W.cell? ⟨w.heap.size + 2, 0, none⟩ = some (.slice va k vca) ∧ W.cell? ⟨w.heap.size, 0, none⟩ = some (.slice (some ⟨bv, ov, none⟩) vs.length ca) ∧ W.cell? ⟨bv, ov + k, none⟩ = some (.int .i64 x)) (B := fun j => decide (j ≠ 19)) (by kernel_rfl) ?_
      refine anyKeep.take (i := 0) (v := ?_) rfl (by kernel_rfl) (by kernel_rfl) (by kernel_rfl) (by kernel_rfl) (fun _ _ _ h => h) rfl ?_ hSd ?_
      rotate_left
      · rintro w' ⟨h1, h2, h3⟩
        go_simp
        try with_reducible rfl
      simp only [Act.put, List.setIfInBounds_toArray]
      refine anyKeep.take (i := 1) (v := ?_) rfl (by kernel_rfl) (by kernel_rfl) (by kernel_rfl) (by kernel_rfl) (fun _ _ _ h => h) rfl ?_ hSd ?_
      rotate_left
      · rintro w' ⟨h1, h2, h3⟩
        go_simp
        try with_reducible rfl
      simp only [Act.put]
      refine anyKeep.take (i := 2) (v := ?_) rfl (by kernel_rfl) (by kernel_rfl) (by kernel_rfl) (by kernel_rfl) (fun _ _ _ h => h) rfl ?_ hSd ?_
      rotate_left
      · rintro w' ⟨h1, h2, h3⟩
        go_simp
        try with_reducible rfl
      simp only [Act.put]
      refine anyKeep.take (i := 3) (v := ?_) rfl (by kernel_rfl) (by kernel_rfl) (by kernel_rfl) (by kernel_rfl) (fun _ _ _ h => h) rfl ?_ hSd ?_
      rotate_left
      · rintro w' ⟨h1, h2, h3⟩
        go_simp
        try with_reducible rfl
      simp only [Act.put]
      refine anyKeep.take (i := 4) (v := ?_) rfl (by kernel_rfl) (by kernel_rfl) (by kernel_rfl) (by kernel_rfl) (fun _ _ _ h => h) rfl ?_ hSd ?_
      rotate_left
      · rintro w' ⟨h1, h2, h3⟩
        go_simp
        try with_reducible rfl
      simp only [Act.put]
      refine anyKeep.take (i := 5) (v := ?_) rfl (by kernel_rfl) (by kernel_rfl) (by kernel_rfl) (by kernel_rfl) (fun _ _ _ h => h) rfl ?_ hSd ?_
      rotate_left
      · rintro w' ⟨h1, h2, h3⟩
        go_simp
        try with_reducible rfl
      simp only [Act.put]
      refine anyKeep.take (i := 6) (v := ?_) rfl (by kernel_rfl) (by kernel_rfl) (by kernel_rfl) (by kernel_rfl) (fun _ _ _ h => h) rfl ?_ hSd ?_
      rotate_left
      · rintro w' ⟨h1, h2, h3⟩
        go_simp
        try with_reducible rfl
      simp only [Act.put]
      refine anyKeep.take (i := 7) (v := ?_) rfl (by kernel_rfl) (by kernel_rfl) (by kernel_rfl) (by kernel_rfl) (fun _ _ _ h => h) rfl ?_ hSd ?_
      rotate_left
      · rintro w' ⟨h1, h2, h3⟩
        go_simp
        try with_reducible rfl
      simp only [Act.put]
      refine anyKeep.take (i := 8) (v := ?_) rfl (by kernel_rfl) (by kernel_rfl) (by kernel_rfl) (by kernel_rfl) (fun _ _ _ h => h) rfl ?_ hSd ?_
      rotate_left
      · rintro w' ⟨h1, h2, h3⟩
        go_simp
        try with_reducible rfl
      simp only [Act.put]
      refine anyKeep.take (i := 9) (v := ?_) rfl (by kernel_rfl) (by kernel_rfl) (by kernel_rfl) (by kernel_rfl) (fun _ _ _ h => h) rfl ?_ hSd ?_
      rotate_left
      · rintro w' ⟨h1, h2, h3⟩
        go_simp
        try with_reducible rfl
      simp only [Act.put]
      refine anyKeep.take (i := 10) (v := ?_) rfl (by kernel_rfl) (by kernel_rfl) (by kernel_rfl) (by kernel_rfl) (fun _ _ _ h => h) rfl ?_ hSd ?_
      rotate_left
      · rintro w' ⟨h1, h2, h3⟩
        go_simp
        try with_reducible rfl
      simp only [Act.put]
      refine anyKeep.take (i := 11) (v := ?_) rfl (by kernel_rfl) (by kernel_rfl) (by kernel_rfl) (by kernel_rfl) (fun _ _ _ h => h) rfl ?_ hSd ?_
      rotate_left
      · rintro w' ⟨h1, h2, h3⟩
        go_simp
        try with_reducible rfl
      simp only [Act.put]
      refine anyKeep.take (i := 12) (v := ?_) rfl (by kernel_rfl) (by kernel_rfl) (by kernel_rfl) (by kernel_rfl) (fun _ _ _ h => h) rfl ?_ hSd ?_
      rotate_left
      · rintro w' ⟨h1, h2, h3⟩
        go_simp
        try with_reducible rfl
      simp only [Act.put]
      refine anyKeep.take (i := 13) (v := ?_) rfl (by kernel_rfl) (by kernel_rfl) (by kernel_rfl) (by kernel_rfl) (fun _ _ _ h => h) rfl ?_ hSd ?_
      rotate_left
      · rintro w' ⟨h1, h2, h3⟩
        go_simp
        try with_reducible rfl
      simp only [Act.put]
      refine anyKeep.one (k := 14) (by kernel_rfl) rfl (fun K hK => ?_)
      go_simp
      go_at_call 166
      refine (specBit _ _).mono ?_
      rintro e w5 ⟨rfl, rfl⟩
      refine hK _ _ (fun _ => hSd) ?_
      clear hK K
      try simp only [Act.put, List.setIfInBounds_toArray]
      refine anyKeep.take (i := 15) (v := ?_) rfl (by kernel_rfl) (by kernel_rfl) (by kernel_rfl) (by kernel_rfl) (fun _ _ _ h => h) rfl ?_ hSd ?_
      rotate_left
      · rintro w' ⟨h1, h2, h3⟩
        go_simp
        try with_reducible rfl
      simp only [Act.put, List.setIfInBounds_toArray]
      refine anyKeep.one (k := 16) (by kernel_rfl) rfl (fun K hK => ?_)
      go_simp
      refine hK _ _ (fun _ => hSof _ (HD.out.call ((Below.refl _ _).alloc (Nat.le_refl _) _))) ?_
      clear hK K
      try simp only [Act.put, List.setIfInBounds_toArray]
      refine anyKeep.one (k := 17) (by kernel_rfl) rfl (fun K hK => ?_)
      refine step_append_lies _ rfl (.tmp 17) (.tmp 32) 28 rfl (w.heap.size + 3) 3 i0 (.int .i64 0) 1 8 Tryz.underlying28 hi hz0 hz1 hz2 rfl (by decide) (.slice va k vca) k (intVals ((vs.take k).map (lowC c))) ?_ (HO.out.alloc _) ⟨wr.heap.size, 0, none⟩ 1 1 [.int .i64 lx] ?_ rfl ?_ ?_ (by omega) ?_ ?_ ?_ _ rfl ?_
      · simp [Act.eval]
      · simp [Act.eval]
      · exact oneCell_at (w := wr.drew) _
      · exact oneCell_int _
      · unfold maxLen; omega
      · omega
      · show w.heap.size + 3 ≤ _
        simp
        omega
      intro g9 cap9 w9 hown9 hg9 hat9 hlt9
      have T9 : Turn (w.heap.size + 3) w9.heap.size _ w9 := Turn.of_grown hg9 (fun j hj => ⟨(HO.out.lt j hj).1, by have h2 : j < wr.heap.size := (HO.out.lt j hj).2; have h1 : wr.heap.size + 1 ≤ w9.heap.size := (by have := hg9.size; simpa using this); omega⟩)
      have D9 := (HD.out.call ((Below.refl _ _).alloc (Nat.le_refl _) _)).turn T9 (by omega)
      refine hK _ _ (fun _ => hSof _ D9) ?_
      clear hK K hSd
      have d9 := D9.out.c 0 _ rfl
      have pf9 := D9.out.f
      try simp only [Act.put, List.setIfInBounds_toArray]
      refine anyKeep.one (k := 18) (by kernel_rfl) rfl (fun K hK => ?_)
      go_simp
      refine hK _ _ (fun _ => hSof _ D9) ?_
      clear hK K hSof
      try simp only [Act.put, List.setIfInBounds_toArray, List.set_cons_zero, List.set_cons_succ]
      refine anyKeep.one (k := 19) (by kernel_rfl) rfl (fun K hK => ?_)
      go_simp
      refine hK _ _ (fun e => by simp at e) ?_
      clear hK K
      refine anyKeep.done (by kernel_rfl) ?_
      have hrel := D9.set0 (.slice (some ⟨g9, 0, none⟩) (k + 1) cap9)
      have hown10 : (w9.setCell ⟨w.heap.size + 2, 0, none⟩ (.slice (some ⟨g9, 0, none⟩) (k + 1) cap9)).ownsRow (w.heap.size + 3) 3 1 (.slice (some ⟨g9, 0, none⟩) (k + 1) cap9) (k + 1) (intVals ((vs.take (k + 1)).map (lowC c))) := by
        rw [HNX.out, intVals_snoc]
        exact ownsRow_setCell_below hown9 (a := ⟨w.heap.size + 2, 0, none⟩) (Nat.lt_succ_self _) _
      go_wp2
      go_roundw
      case rel => first | exact ⟨k + 1, _, by omega, by go_num, hrel, hown10⟩ | ((repeat apply Exists.intro); exact ⟨⟨k + 1, _, by omega, by go_num, hrel, hown10⟩, rfl⟩)
      case measure => simp [intOf]; omega
    · have hk' : k = vs.length := by omega
      subst hk'
      rw [List.take_length] at hown
      have hV0 := OwnIn.of hown
      have hMw : w.heap.size + 3 ≤ wr.heap.size := by omega
      clear hown hlt
      go_wp2
      generalize hM : wr.heap.size = M at *
      go_loopw [7] (fun i wr => ∃ (k n : Nat) (v : Value), k ≤ zs.length ∧ i = .int .i64 k ∧ So w (.slice a vs.length ca) (.slice b zs.length cb) (.slice va vs.length vca) v wr ∧ OwnIn (w.heap.size + 3) M wr 3 1 (.slice va vs.length vca) vs.length (intVals (vs.map (lowC c))) ∧ n = (lessL zs c k).length ∧ wr.ownsRow M 3 1 v n (intVals ((lessL zs c k).map (lowC c))))
        (fun i _ => zs.length - (intOf i).toNat)
      case atStart => exact ⟨0, 0, _, Nat.zero_le _, rfl, hS, hV0, rfl, World.ownsRow_nil _ _ _ _⟩
      case round =>
        clear hS hV0 q0 o0 hlt3 hM
        obtain ⟨k, n, v, hk, rfl, hS, hV, hn, hown⟩ := hrel
        obtain ⟨na, nca, rfl, hnc⟩ := own_shape hown
        have q0 := hS.arg.c 1 _ rfl
        have o0 := hS.out.c 1 _ rfl
        have hlt3 := hS.out.lt
        by_cases hlt : k < zs.length
        · by_cases hkc : k = c
          · subst hkc
            rw [← lessL_skip hlt] at hn hown
            go_wp2
            go_roundw
            case rel => first | exact ⟨k + 1, n, _, by omega, by go_num, hS, hV, hn, hown⟩ | ((repeat apply Exists.intro); exact ⟨⟨k + 1, n, _, by omega, by go_num, hS, hV, hn, hown⟩, rfl⟩)
            case measure => simp [intOf]; omega
          · obtain ⟨bv, ov, ha, hbv, hcv⟩ := HAT.out.z k _ (intVals_at zs k hlt)
            have hbd := HBZ.out _ (List.getElem_mem hlt)
            have hnx := lessL_next hlt hkc
            have hkc' : ¬ (k : Int) = (c : Int) := by omega
            generalize zs[k] = x at *
            subst ha
            have hnx1 : ((lessL zs c (k + 1)).map (lowC c)) = (lessL zs c k).map (lowC c) ++ [lowC c x] := by rw [hnx, List.map_append]; rfl
            have hn1 : n + 1 = (lessL zs c (k + 1)).length := by rw [hnx, hn]; simp
            have hn6 : n ≤ 6 := by have : (lessL zs c k).length ≤ k := lessL_le; omega
            have HNX := Lib.hid hnx1
            have HN1 := Lib.hid hn1
            have HN := Lib.hid hn
            clear hnx hnx1 hn1 hn
            have HD := Lib.hid (hS.call (Below.drew (Below.refl _ _)))
            have HO := Lib.hid (own_drew hown)
            have HV := Lib.hid (hV.below (Below.drew (Below.refl _ _)))
            have hMW := hV.1
            clear hS hown hV
            obtain ⟨tb, htb⟩ : ∃ tb, decide ((c : Int) < x) = tb := ⟨_, rfl⟩
            have hlow : IntKind.i64.wrap (x - bitZ tb) = lowC c x := by
              rw [IntKind.wrap_i64]
              unfold lowC bitZ
              rw [← htb]
              by_cases hx : (c : Int) < x
              · simp only [hx, decide_true, if_true]
                omega
              · simp only [hx, decide_false, if_false, Bool.false_eq_true]
                omega
            generalize lowC c x = lx at *
            have hSof : ∀ W, So w (.slice a vs.length ca) (.slice (some ⟨bv, ov, none⟩) zs.length cb) (.slice va vs.length vca) (.slice na n nca) W → W.cell? ⟨w.heap.size + 2, 1, none⟩ = some (.slice na n nca) ∧ W.cell? ⟨w.heap.size, 1, none⟩ = some (.slice (some ⟨bv, ov, none⟩) zs.length cb) ∧ W.cell? ⟨bv, ov + k, none⟩ = some (.int .i64 x) := fun W h =>
              ⟨h.out.c 1 _ rfl, h.arg.c 1 _ rfl, (h.below.cell (p := ⟨bv, ov + k, none⟩) hbv).trans hcv⟩
            have hSd := hSof _ HD.out
            go_wp2
            refine wp_region_keep (S := fun W => W.cell? ⟨w.heap.size + 2, 1, none⟩ = some (.slice na n nca) ∧ W.cell? ⟨w.heap.size, 1, none⟩ = some (.slice (some ⟨bv, ov, none⟩) zs.length cb) ∧ W.cell? ⟨bv, ov + k, none⟩ = some (.int .i64 x)) (B := fun j => decide (j ≠ 19)) (by kernel_rfl) ?_
            refine anyKeep.take (i := 0) (v := ?_) rfl (by kernel_rfl) (by kernel_rfl) (by kernel_rfl) (by kernel_rfl) (fun _ _ _ h => h) rfl ?_ hSd ?_
            rotate_left
            · rintro w' ⟨h1, h2, h3⟩
              go_simp
              try with_reducible rfl
            simp only [Act.put, List.setIfInBounds_toArray]
            refine anyKeep.take (i := 1) (v := ?_) rfl (by kernel_rfl) (by kernel_rfl) (by kernel_rfl) (by kernel_rfl) (fun _ _ _ h => h) rfl ?_ hSd ?_
            rotate_left
            · rintro w' ⟨h1, h2, h3⟩
              go_simp
              try with_reducible rfl
            simp only [Act.put]
            refine anyKeep.take (i := 2) (v := ?_) rfl (by kernel_rfl) (by kernel_rfl) (by kernel_rfl) (by kernel_rfl) (fun _ _ _ h => h) rfl ?_ hSd ?_
            rotate_left
            · rintro w' ⟨h1, h2, h3⟩
              go_simp
              try with_reducible rfl
            simp only [Act.put]
            refine anyKeep.take (i := 3) (v := ?_) rfl (by kernel_rfl) (by kernel_rfl) (by kernel_rfl) (by kernel_rfl) (fun _ _ _ h => h) rfl ?_ hSd ?_
            rotate_left
            · rintro w' ⟨h1, h2, h3⟩
              go_simp
              try with_reducible rfl
            simp only [Act.put]
            refine anyKeep.take (i := 4) (v := ?_) rfl (by kernel_rfl) (by kernel_rfl) (by kernel_rfl) (by kernel_rfl) (fun _ _ _ h => h) rfl ?_ hSd ?_
            rotate_left
            · rintro w' ⟨h1, h2, h3⟩
              go_simp
              try with_reducible rfl
            simp only [Act.put]
            refine anyKeep.take (i := 5) (v := ?_) rfl (by kernel_rfl) (by kernel_rfl) (by kernel_rfl) (by kernel_rfl) (fun _ _ _ h => h) rfl ?_ hSd ?_
            rotate_left
            · rintro w' ⟨h1, h2, h3⟩
              go_simp
              try with_reducible rfl
            simp only [Act.put]
            refine anyKeep.take (i := 6) (v := ?_) rfl (by kernel_rfl) (by kernel_rfl) (by kernel_rfl) (by kernel_rfl) (fun _ _ _ h => h) rfl ?_ hSd ?_
            rotate_left
            · rintro w' ⟨h1, h2, h3⟩
              go_simp
              try with_reducible rfl
            simp only [Act.put]
            refine anyKeep.take (i := 7) (v := ?_) rfl (by kernel_rfl) (by kernel_rfl) (by kernel_rfl) (by kernel_rfl) (fun _ _ _ h => h) rfl ?_ hSd ?_
            rotate_left
            · rintro w' ⟨h1, h2, h3⟩
              go_simp
              try with_reducible rfl
            simp only [Act.put]
            refine anyKeep.take (i := 8) (v := ?_) rfl (by kernel_rfl) (by kernel_rfl) (by kernel_rfl) (by kernel_rfl) (fun _ _ _ h => h) rfl ?_ hSd ?_
            rotate_left
            · rintro w' ⟨h1, h2, h3⟩
              go_simp
              try with_reducible rfl
            simp only [Act.put]
            refine anyKeep.take (i := 9) (v := ?_) rfl (by kernel_rfl) (by kernel_rfl) (by kernel_rfl) (by kernel_rfl) (fun _ _ _ h => h) rfl ?_ hSd ?_
            rotate_left
            · rintro w' ⟨h1, h2, h3⟩
              go_simp
              try with_reducible rfl
            simp only [Act.put]
            refine anyKeep.take (i := 10) (v := ?_) rfl (by kernel_rfl) (by kernel_rfl) (by kernel_rfl) (by kernel_rfl) (fun _ _ _ h => h) rfl ?_ hSd ?_
            rotate_left
            · rintro w' ⟨h1, h2, h3⟩
              go_simp
              try with_reducible rfl
            simp only [Act.put]
            refine anyKeep.take (i := 11) (v := ?_) rfl (by kernel_rfl) (by kernel_rfl) (by kernel_rfl) (by kernel_rfl) (fun _ _ _ h => h) rfl ?_ hSd ?_
            rotate_left
            · rintro w' ⟨h1, h2, h3⟩
              go_simp
              try with_reducible rfl
            simp only [Act.put]
            refine anyKeep.take (i := 12) (v := ?_) rfl (by kernel_rfl) (by kernel_rfl) (by kernel_rfl) (by kernel_rfl) (fun _ _ _ h => h) rfl ?_ hSd ?_
            rotate_left
            · rintro w' ⟨h1, h2, h3⟩
              go_simp
              try with_reducible rfl
            simp only [Act.put]
            refine anyKeep.take (i := 13) (v := ?_) rfl (by kernel_rfl) (by kernel_rfl) (by kernel_rfl) (by kernel_rfl) (fun _ _ _ h => h) rfl ?_ hSd ?_
            rotate_left
            · rintro w' ⟨h1, h2, h3⟩
              go_simp
              try with_reducible rfl
            simp only [Act.put]
            refine anyKeep.one (k := 14) (by kernel_rfl) rfl (fun K hK => ?_)
            go_simp
            go_at_call 166
            refine (specBit _ _).mono ?_
            rintro e w5 ⟨rfl, rfl⟩
            refine hK _ _ (fun _ => hSd) ?_
            clear hK K
            try simp only [Act.put, List.setIfInBounds_toArray]
            refine anyKeep.take (i := 15) (v := ?_) rfl (by kernel_rfl) (by kernel_rfl) (by kernel_rfl) (by kernel_rfl) (fun _ _ _ h => h) rfl ?_ hSd ?_
            rotate_left
            · rintro w' ⟨h1, h2, h3⟩
              go_simp
              try with_reducible rfl
            simp only [Act.put, List.setIfInBounds_toArray]
            refine anyKeep.one (k := 16) (by kernel_rfl) rfl (fun K hK => ?_)
            go_simp
            refine hK _ _ (fun _ => hSof _ (HD.out.call ((Below.refl _ _).alloc (Nat.le_refl _) _))) ?_
            clear hK K
            try simp only [Act.put, List.setIfInBounds_toArray]
            refine anyKeep.one (k := 17) (by kernel_rfl) rfl (fun K hK => ?_)
            refine step_append_lies _ rfl (.tmp 46) (.tmp 61) 28 rfl (M) 3 i0 (.int .i64 0) 1 8 Tryz.underlying28 hi hz0 hz1 hz2 rfl (by decide) (.slice na n nca) n (intVals ((lessL zs c k).map (lowC c))) ?_ (HO.out.alloc _) ⟨wr.heap.size, 0, none⟩ 1 1 [.int .i64 lx] ?_ rfl ?_ ?_ (by omega) ?_ ?_ ?_ _ rfl ?_
            · simp [Act.eval]
            · simp [Act.eval]
            · exact oneCell_at (w := wr.drew) _
            · exact oneCell_int _
            · unfold maxLen; omega
            · omega
            · show M ≤ _
              simp
              omega
            intro g9 cap9 w9 hown9 hg9 hat9 hlt9
            have T9 : Turn (M) w9.heap.size _ w9 := Turn.of_grown hg9 (fun j hj => ⟨(HO.out.lt j hj).1, by have h2 : j < wr.heap.size := (HO.out.lt j hj).2; have h1 : wr.heap.size + 1 ≤ w9.heap.size := (by have := hg9.size; simpa using this); omega⟩)
            have D9 := (HD.out.call ((Below.refl _ _).alloc (Nat.le_refl _) _)).turn T9 (by omega)
            refine hK _ _ (fun _ => hSof _ D9) ?_
            clear hK K hSd
            have d9 := D9.out.c 1 _ rfl
            have pf9 := D9.out.f
            try simp only [Act.put, List.setIfInBounds_toArray]
            refine anyKeep.one (k := 18) (by kernel_rfl) rfl (fun K hK => ?_)
            go_simp
            refine hK _ _ (fun _ => hSof _ D9) ?_
            clear hK K hSof
            try simp only [Act.put, List.setIfInBounds_toArray, List.set_cons_zero, List.set_cons_succ]
            refine anyKeep.one (k := 19) (by kernel_rfl) rfl (fun K hK => ?_)
            go_simp
            refine hK _ _ (fun e => by simp at e) ?_
            clear hK K
            refine anyKeep.done (by kernel_rfl) ?_
            have hrel := D9.set1 (.slice (some ⟨g9, 0, none⟩) (n + 1) cap9)
            have hal := (Below.refl wr.drew.heap.size wr.drew).alloc (Nat.le_refl _) (.cells #[.int .i64 lx] 3)
            have V9 := (HV.out.below hal).turn T9 (.inl (Nat.le_refl _))
            have tq : Turn (w.heap.size + 2) (w.heap.size + 3) w9 (w9.setCell ⟨w.heap.size + 2, 1, none⟩ (.slice (some ⟨g9, 0, none⟩) (n + 1) cap9)) := Turn.of_grown (grown_cell (grown_self _ _)) (fun j hj => by have := Option.some.inj hj; omega)
            have hV10 := V9.turn tq (.inr (Nat.le_refl _))
            have hown10 : (w9.setCell ⟨w.heap.size + 2, 1, none⟩ (.slice (some ⟨g9, 0, none⟩) (n + 1) cap9)).ownsRow M 3 1 (.slice (some ⟨g9, 0, none⟩) (n + 1) cap9) (n + 1) (intVals ((lessL zs c (k + 1)).map (lowC c))) := by
              rw [HNX.out, intVals_snoc]
              exact ownsRow_setCell_below hown9 (a := ⟨w.heap.size + 2, 1, none⟩) (show w.heap.size + 2 < M by omega) _
            go_wp2
            go_roundw
            case rel => first | exact ⟨k + 1, n + 1, _, by omega, by go_num, hrel, hV10, HN1.out, hown10⟩ | ((repeat apply Exists.intro); exact ⟨⟨k + 1, n + 1, _, by omega, by go_num, hrel, hV10, HN1.out, hown10⟩, rfl⟩)
            case measure => simp [intOf]; omega
        · have hk' : k = zs.length := by omega
          subst hk'
          have hez : lessL zs c zs.length = zs.eraseIdx c := by unfold lessL; rw [List.take_length]
          rw [hez] at hn hown
          have hlz : (zs.eraseIdx c).length ≤ zs.length := List.length_eraseIdx_le _ _
          have x0 := hS.out.c 0 _ rfl
          have x1 := hS.out.c 1 _ rfl
          have r0 := hS.res.c 0 _ rfl
          have r1 := hS.res.c 1 _ rfl
          have rf := hS.res.f
          have hblw := hS.below
          have hMW := hV.1
          have HV := Lib.hid hV
          have HN := Lib.hid hown
          have HNN := Lib.hid hn
          clear hS hV hown hn hez o0
          go_wp2
          refine bodyPost_ret (v := heV va vs.length vca na n nca) (by simp [results, Tryz.results158, go_sem, r0, r1]) rfl ?_
          have tq : Turn (w.heap.size + 1) (w.heap.size + 2) wr ((wr.setCell ⟨w.heap.size + 1, 0, none⟩ (.slice va vs.length vca)).setCell ⟨w.heap.size + 1, 1, none⟩ (.slice na n nca)) :=
            Turn.of_grown (grown_cell (grown_cell (grown_self _ _))) (fun j hj => by have := Option.some.inj hj; omega)
          have ev : (intVals (vs.map (lowC c))).length = vs.length := by rw [intVals_length]; simp
          have en : (intVals ((zs.eraseIdx c).map (lowC c))).length = n := by rw [intVals_length, HNN.out]; simp
          refine ⟨va, vca, na, nca, by rw [List.length_map, List.length_map, HNN.out], ⟨?_, ?_, ?_⟩, tq.below hblw (by omega) hblw.size⟩
          · rw [ev]
            exact (HV.out.turn tq (.inr (by omega))).mono (by omega) (by simp; omega) (Nat.le_refl _)
          · rw [en]
            exact ((OwnIn.of HN.out).turn tq (.inr (by omega))).mono (by omega) (by simp) (Nat.le_refl _)
          · rw [ev, en]
            intro j h1 h2
            have := HV.out.2.2 j h1
            have := (HN.out.lt j h2).1
            omega
end Go.Proofs.YtpmmjaceehlpiaaGreatDoor
