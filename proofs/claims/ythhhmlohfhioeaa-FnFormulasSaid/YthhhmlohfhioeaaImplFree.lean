/-
  The program's FreeLogic.
-/
import Derived.Test.YthhhmlohfhioeaaReachS
import Derived.Test.YthhhmlohfhioeaaToTree
namespace Go.Proofs.Ythhhmlohfhioeaa
open Go Go.RowKit Go.ChangeAt Go.ChangeShapes Go.WideShapes

theorem NodeAt.turn {w w' : World} {b o lo hi : Nat} {x : Ft} (h : NodeAt w b o x) (t : Turn lo hi w w') (hb : b < w.heap.size) (hd : b < lo ∨ hi ≤ b) : NodeAt w' b o x :=
  h.keeps fun _ => World.cell?_of_block (t.block b hb hd)
/-- The array of what is free, in a block. -/
structure Arr (w : World) (g : Nat) (f : B4) : Prop where
  a : w.cell? ⟨g, 0, none⟩ = some (.bool f.a)
  b : w.cell? ⟨g, 1, none⟩ = some (.bool f.b)
  c : w.cell? ⟨g, 2, none⟩ = some (.bool f.c)
  d : w.cell? ⟨g, 3, none⟩ = some (.bool f.d)
  fr : ∀ o, w.frozen? ⟨g, o, none⟩ = false
  lt : g < w.heap.size
theorem Arr.below {w w' : World} {g : Nat} {f : B4} (h : Arr w g f) (hb : Below w.heap.size w w') : Arr w' g f :=
  ⟨(hb.cell (p := ⟨g, 0, none⟩) h.lt).trans h.a, (hb.cell (p := ⟨g, 1, none⟩) h.lt).trans h.b, (hb.cell (p := ⟨g, 2, none⟩) h.lt).trans h.c, (hb.cell (p := ⟨g, 3, none⟩) h.lt).trans h.d, fun o => (hb.frozen (p := ⟨g, o, none⟩) h.lt).trans (h.fr o), Nat.lt_of_lt_of_le h.lt hb.size⟩
theorem turn_setA (w : World) (g o : Nat) (v : Value) : Turn g (g + 1) w (w.setCell ⟨g, o, none⟩ v) := ⟨rfl, rfl, rfl, by simp, fun k hk hd => by
  have : g ≠ k := by omega
  simp [World.setCell, Array.getElem?_modify, this]⟩
theorem Arr.set {w : World} {g : Nat} {f : B4} (h : Arr w g f) (i : Nat) (hi : i < 4) : Arr (w.setCell ⟨g, i, none⟩ (.bool true)) g (f.put (i : Int)) := by
  obtain ⟨a, b, c, d, fr, lt⟩ := h
  have h4 : i = 0 ∨ i = 1 ∨ i = 2 ∨ i = 3 := by omega
  have f0 := fr 0
  have f1 := fr 1
  have f2 := fr 2
  have f3 := fr 3
  rcases h4 with rfl | rfl | rfl | rfl
  all_goals
    refine ⟨?_, ?_, ?_, ?_, fun o => ?_, by simpa using lt⟩
    all_goals simp [B4.put, go_sem, a, b, c, d, fr]
open Classical in
noncomputable def univS (U : List Loc) (r : Sc) : List Sc := (U.flatMap fun a => all16.map fun b => (a, b)).filter fun s => decide (∀ j : Int, 0 ≤ j ∧ j < 4 → freeS j s = true → freeS j r = true)
theorem univS_mem {U : List Loc} {r s : Sc} : s ∈ univS U r ↔ s.1 ∈ U ∧ (∀ j : Int, 0 ≤ j ∧ j < 4 → freeS j s = true → freeS j r = true) := by
  obtain ⟨a, b⟩ := s
  simp [univS, all16_mem]
theorem prod16_nodup : ∀ {U : List Loc}, (U.map Prod.fst).Nodup → ((U.flatMap fun a => all16.map fun b => ((a, b) : Sc)).map scAddr).Nodup
  | [], _ => List.nodup_nil
  | a :: U, h => by
    rw [List.map_cons, List.nodup_cons] at h
    rw [List.flatMap_cons, List.map_append]
    refine List.nodup_append.2 ⟨?_, prod16_nodup h.2, fun p hp q hq e => ?_⟩
    · rw [List.map_map]
      refine map_nodup_of (f := id) (by simpa using all16_nodup) fun x _ y _ h => ?_
      have : (scAddr ((a, x) : Sc)).2 = (scAddr ((a, y) : Sc)).2 := by rw [show scAddr ((a, x) : Sc) = scAddr ((a, y) : Sc) from h]
      exact this
    · obtain ⟨x, hx, rfl⟩ := List.mem_map.1 hp
      obtain ⟨y, hy, rfl⟩ := List.mem_map.1 hq
      obtain ⟨b, _, rfl⟩ := List.mem_map.1 hx
      obtain ⟨z, hz, hz2⟩ := List.mem_flatMap.1 hy
      obtain ⟨c, _, rfl⟩ := List.mem_map.1 hz2
      have : a.1 = z.1 := by injection e
      exact h.1 (this ▸ List.mem_map.2 ⟨z, hz, rfl⟩)
theorem prod16_length : ∀ (U : List Loc), (U.flatMap fun a => all16.map fun b => ((a, b) : Sc)).length = U.length * 16
  | [] => rfl
  | a :: U => by rw [List.flatMap_cons, List.length_append, prod16_length U, List.length_map, all16_length, List.length_cons]; omega
def bitsL (f : B4) : List Int := [0, 1, 2, 3].filter fun i => f.get i
theorem any_next {L : List Sc} {k : Nat} (h : k < L.length) (j : Int) : (L.take (k + 1)).any (ownS j) = ((L.take k).any (ownS j) || ownS j L[k]) := by
  rw [take_next L k h, List.any_append]
  simp

theorem row_at0 (p1 p2 p3 : Bool) : (([0, 1, 2, 3] : List Int).take 1 |>.filter fun i => (B4.mk true p1 p2 p3).get i) = (([0, 1, 2, 3] : List Int).take 0 |>.filter fun i => (B4.mk true p1 p2 p3).get i) ++ [0] := by rfl
theorem row_at1 (p0 p2 p3 : Bool) : (([0, 1, 2, 3] : List Int).take 2 |>.filter fun i => (B4.mk p0 true p2 p3).get i) = (([0, 1, 2, 3] : List Int).take 1 |>.filter fun i => (B4.mk p0 true p2 p3).get i) ++ [1] := by cases p0 <;> rfl
theorem row_at2 (p0 p1 p3 : Bool) : (([0, 1, 2, 3] : List Int).take 3 |>.filter fun i => (B4.mk p0 p1 true p3).get i) = (([0, 1, 2, 3] : List Int).take 2 |>.filter fun i => (B4.mk p0 p1 true p3).get i) ++ [2] := by cases p0 <;> cases p1 <;> rfl
theorem row_at3 (p0 p1 p2 : Bool) : (([0, 1, 2, 3] : List Int).take 4 |>.filter fun i => (B4.mk p0 p1 p2 true).get i) = (([0, 1, 2, 3] : List Int).take 3 |>.filter fun i => (B4.mk p0 p1 p2 true).get i) ++ [3] := by cases p0 <;> cases p1 <;> cases p2 <;> rfl
theorem index_at0 (p0 p1 p2 p3 : Bool) (w : World) : (Instr.index 70 (.agg #[.bool p0, .bool p1, .bool p2, .bool p3]) (.int .i64 0)).run Try.prog w = .ok (.bool p0) w := by kernel_rfl
theorem index_at1 (p0 p1 p2 p3 : Bool) (w : World) : (Instr.index 70 (.agg #[.bool p0, .bool p1, .bool p2, .bool p3]) (.int .i64 1)).run Try.prog w = .ok (.bool p1) w := by kernel_rfl
theorem index_at2 (p0 p1 p2 p3 : Bool) (w : World) : (Instr.index 70 (.agg #[.bool p0, .bool p1, .bool p2, .bool p3]) (.int .i64 2)).run Try.prog w = .ok (.bool p2) w := by kernel_rfl
theorem index_at3 (p0 p1 p2 p3 : Bool) (w : World) : (Instr.index 70 (.agg #[.bool p0, .bool p1, .bool p2, .bool p3]) (.int .i64 3)).run Try.prog w = .ok (.bool p3) w := by kernel_rfl
theorem free_step {n : Int} {us : List Int} {k : Nat} (j : Int) (_hj : 0 ≤ j ∧ j < 4) (f : Bool) (b : B4) (hb : b.get n = false) : ((f || (!b.get j && decide (j ∈ us.take k))) || decide (n = j)) = (f || (!b.get j && decide (j ∈ us.take k ++ [n]))) := by
  by_cases e : n = j
  · subst e
    simp [hb]
  · have e' : ¬ j = n := fun h => e h.symm
    simp [e, e']
theorem bound_step {n : Int} {us : List Int} {k : Nat} (j : Int) (_hj : 0 ≤ j ∧ j < 4) (f : Bool) (b : B4) (hb : b.get n = true) : (f || (!b.get j && decide (j ∈ us.take k))) = (f || (!b.get j && decide (j ∈ us.take k ++ [n]))) := by
  by_cases e : j = n
  · subst e
    simp [hb]
  · simp [e]
set_option maxRecDepth 100000 in
set_option maxHeartbeats 6400000 in
theorem implFreeLogic (x : Ft) (w : World) (h : Solid w x) (hsz : x.er.size ≤ 1073741824) : Calls Try.prog 17 #[x.val] w (Built w.heap.size 3 (intVals (freeL x.er)) w) := by
  obtain ⟨i0, hi, hz0, hz1, hz2⟩ := info_parts num2Info
  obtain ⟨f1, k1, n1, G1⟩ := h.rooted
  have hla := Ft.nodes_length ⟨w.heap.size, 0, none⟩ x
  have hbl : ∀ y ∈ x.nodes ⟨w.heap.size, 0, none⟩, y.1.block ≤ w.heap.size := fun y hy => by
    have h1 : y.1 ∈ (⟨w.heap.size, 0, none⟩ : Addr) :: x.places := (Ft.nodes_perm _ x).mem_iff.1 (List.mem_map.2 ⟨y, hy, rfl⟩)
    rcases List.mem_cons.1 h1 with e | e
    · rw [e]
      exact Nat.le_refl _
    · exact Nat.le_of_lt (h.plain _ e).lt
  obtain ⟨WA, hWA⟩ : ∃ W, w.alloc (.cells #[.int .i64 x.kd, .int .i64 x.k, .int .i64 x.u, .int .i64 x.v, .slice x.a x.args.length x.cap] 26) = W := ⟨_, rfl⟩
  have hbA : Below w.heap.size w WA := by rw [← hWA]; exact (Below.refl _ _).alloc (Nat.le_refl _) _
  have hsA : WA.heap.size = w.heap.size + 1 := by rw [← hWA]; simp
  rw [hWA] at G1
  obtain ⟨W1, hW1⟩ : ∃ W, WA.alloc (.cells #[.bool false, .bool false, .bool false, .bool false] 70) = W := ⟨_, rfl⟩
  have hb1 : Below WA.heap.size WA W1 := by rw [← hW1]; exact (Below.refl _ _).alloc (Nat.le_refl _) _
  have hs1 : W1.heap.size = w.heap.size + 2 := by rw [← hW1]; simp [hsA]
  have hA1 : Arr W1 (w.heap.size + 1) B4.none_ := by
    rw [← hW1, ← hsA]
    refine ⟨?_, ?_, ?_, ?_, fun o => ?_, by simp⟩ <;> simp [go_sem, B4.none_]
  have hb0 : Below w.heap.size w W1 := hbA.trans (hb1.mono (by omega))
  have G1' := G1.below hb1
  generalize x.nodes ⟨w.heap.size, 0, none⟩ = A at *
  obtain ⟨r, hr⟩ : ∃ r : Sc, ((⟨w.heap.size, 0, none⟩, x), B4.none_) = r := ⟨_, rfl⟩
  have hfree : ∀ j : Int, 0 ≤ j ∧ j < 4 → freeS j r = x.er.freeF j false := fun j hj => by
    subst hr
    have h4 : j = 0 ∨ j = 1 ∨ j = 2 ∨ j = 3 := by omega
    rcases h4 with rfl | rfl | rfl | rfl <;> rfl
  have hrU : r ∈ univS A r := univS_mem.2 ⟨by rw [← hr]; exact f1, fun _ _ h => h⟩
  have hcU : ∀ s ∈ univS A r, ∀ y ∈ stepsS s, y ∈ univS A r := fun s hs y hy => by
    obtain ⟨h1, h2⟩ := univS_mem.1 hs
    obtain ⟨z, hz, rfl⟩ := List.mem_map.1 hy
    exact univS_mem.2 ⟨k1 _ h1 _ hz, fun j hj hf => h2 j hj ((freeS_iff j hj s).2 (.inr ⟨_, hy, hf⟩))⟩
  have hnU : ((univS A r).map scAddr).Nodup := (List.filter_sublist.map scAddr).nodup (prod16_nodup n1)
  have hlU : (univS A r).length ≤ 1099511627776 := by
    refine Nat.le_trans (List.length_filter_le _ _) ?_
    rw [prod16_length, hla]
    omega
  have hGU : GroundS (univS A r) W1 := ⟨fun s hs => G1'.ok _ (univS_mem.1 hs).1, fun s hs => G1'.len _ (univS_mem.1 hs).1⟩
  have hV : scV r = .agg #[.pointer (some ⟨w.heap.size, 0, none⟩), .bool false, .bool false, .bool false, .bool false] := by rw [← hr]; rfl
  have hRT := implReachedS (univS A r) r W1 hrU hcU hnU hGU hlU
  rw [hV] at hRT
  have HRT := Lib.hid hRT
  have HBL := Lib.hid (fun s (hs : s ∈ univS A r) => hbl _ (univS_mem.1 hs).1)
  have HUF := Lib.hid (fun s (hs : s ∈ univS A r) => (univS_mem.1 hs).2)
  have HG := Lib.hid hGU
  have HR := Lib.hid hr
  have HFR := Lib.hid hfree
  have HA1 := Lib.hid hA1
  have HB0 := Lib.hid hb0
  have HS1 := Lib.hid hs1
  have HSA := Lib.hid hsA
  clear hV hRT h hsz f1 k1 n1 G1 G1' hla hbl hbA hb1 hs1 hsA hA1 hb0 hrU hcU hnU hlU hGU hfree
  generalize univS A r = U at *
  go_enter Try.func17, Try.ntmps17
  go_wp2_with fail
  clear hWA hW1
  try rw [HSA.out]
  with_reducible refine HRT.out.mono ?_
  rintro e w2 ⟨L, a, cap, hmet, rfl, hown, hb2⟩
  have hz2' := hb2.size
  have hs1 := HS1.out
  have hLl : L.length ≤ 1099511627776 ∨ True := .inr trivial
  clear hLl
  have HMET := Lib.hid hmet
  have HOWN := Lib.hid hown
  have HA2 := Lib.hid (HA1.out.below hb2)
  have HB2 := Lib.hid hb2
  have hmost : L.length ≤ maxLen := by
    rcases hown.2 with ⟨_, h0⟩ | ⟨_, c, _, _, _, _, h1, h2, _⟩
    · omega
    · omega
  unfold maxLen at hmost
  have HT := Lib.hid (Turn.of_below (lo := w.heap.size + 1) (hi := w.heap.size + 2) hb2)
  clear hmet hown hb2
  go_wp2_with fail
  go_loopw [14] (fun i wr => ∃ (k : Nat) (f : B4), k ≤ L.length ∧ i = .int .i64 k ∧ Arr wr (w.heap.size + 1) f ∧ Turn (w.heap.size + 1) (w.heap.size + 2) w2 wr ∧ (∀ j : Int, 0 ≤ j ∧ j < 4 → f.get j = (L.take k).any (ownS j))) (fun i _ => L.length - (intOf i).toNat)
  case atStart => exact ⟨0, B4.none_, Nat.zero_le _, rfl, HA2.out, Turn.refl _ _ _, fun j hj => by simp [B4.none_, B4.get]⟩
  case round =>
    obtain ⟨k, f, hk, rfl, harr, htw, hfk⟩ := hrel
    have hzw := htw.size
    by_cases hlt : k < L.length
    · have hownr := own_turn HOWN.out htw (fun q hq => .inr (by have := (HOWN.out.lt q hq).1; omega))
      obtain ⟨b, o, ha, hbW, c0, c1, c2, c3, c4⟩ := (row5 hownr).scope k hlt
      have hxL : L[k] ∈ L := List.getElem_mem hlt
      have hnx := any_next (L := L) hlt
      generalize L[k] = s at *
      have hsU := HMET.out.sub s hxL
      have hblk := HBL.out s hsU
      obtain ⟨pb, po, hpe, hnode⟩ := (HG.out.ok1 s hsU).at_
      have hnb := (HG.out.ok1 s hsU).blk
      obtain ⟨⟨ps, t⟩, bd⟩ := s
      simp only at hpe hnode hblk hnb
      subst hpe
      have hnode2 : NodeAt wr pb po t := (hnode.below HB2.out hnb).turn htw (Nat.lt_of_lt_of_le hnb hz2') (.inl (by show pb < _; have : pb ≤ w.heap.size := hblk; omega))
      obtain ⟨d0, d1, d2, d3, d4⟩ := hnode2
      have hpbw : pb < wr.heap.size := Nat.lt_of_lt_of_le (Nat.lt_of_lt_of_le hnb hz2') hzw
      have HUSE := Lib.hid (fun W => implUsedBy t W)
      unfold Ft.val at HUSE
      have HARR := Lib.hid harr
      have HTW := Lib.hid htw
      have HFK := Lib.hid hfk
      have HNX := Lib.hid hnx
      have HXL := Lib.hid hxL
      have HHA := Lib.hid ha
      subst ha
      obtain ⟨q0, q1, q2, q3⟩ := bd
      simp only at c0 c1 c2 c3 c4
      clear harr htw hfk hnx hxL hownr hnode hnb hblk
      go_wp2_with fail
      refine (HUSE.out _).mono ?_
      rintro e w4 ⟨ua, uc, rfl, _, hownu, hb4⟩
      have hz4 := hb4.size
      simp at hz4
      have hb4' : Below wr.heap.size wr w4 := ((Below.refl _ _).alloc (Nat.le_refl _) _).trans (hb4.mono (by simp))
      have hx0 : ∀ o, w4.cell? ⟨wr.heap.size, o, none⟩ = _ := fun o => hb4.cell (p := ⟨wr.heap.size, o, none⟩) (by simp)
      have s1 : w4.cell? ⟨wr.heap.size, 1, none⟩ = some (.bool q0) := by rw [hx0]; simp [go_sem]
      have s2 : w4.cell? ⟨wr.heap.size, 2, none⟩ = some (.bool q1) := by rw [hx0]; simp [go_sem]
      have s3 : w4.cell? ⟨wr.heap.size, 3, none⟩ = some (.bool q2) := by rw [hx0]; simp [go_sem]
      have s4 : w4.cell? ⟨wr.heap.size, 4, none⟩ = some (.bool q3) := by rw [hx0]; simp [go_sem]
      rw [intVals_length] at hownu ⊢
      obtain ⟨us, hus⟩ : ∃ us, usedL t.kd t.u t.v = us := ⟨_, rfl⟩
      have hul : us.length ≤ 2 := by
        rw [← hus]
        unfold usedL
        split
        · simp
        · split <;> simp
      rw [hus] at hownu ⊢
      have HOU := Lib.hid hownu
      have HUS := Lib.hid hus
      have HA4 := Lib.hid (HARR.out.below hb4')
      have HT4 := Lib.hid (HTW.out.trans (Turn.of_below hb4'))
      have HS := Lib.hid (And.intro s1 (And.intro s2 (And.intro s3 s4)))
      obtain ⟨G, hGe⟩ : ∃ G, wr.heap.size = G := ⟨_, rfl⟩
      rw [hGe] at HS ⊢
      have hG2 : w.heap.size + 2 ≤ G := by omega
      have hG4 : G < w4.heap.size := by omega
      clear hownu hus c0 c1 c2 c3 c4 d0 d1 d2 d3 d4 hx0 s1 s2 s3 s4 hb4 hb4'
      go_wp2_with fail
      go_loopw [24] (fun i wq => ∃ (m : Nat) (f' : B4), m ≤ us.length ∧ i = .int .i64 m ∧ Arr wq (w.heap.size + 1) f' ∧ Turn (w.heap.size + 1) (w.heap.size + 2) w4 wq ∧ (∀ j : Int, 0 ≤ j ∧ j < 4 → f'.get j = (f.get j || (!(B4.mk q0 q1 q2 q3).get j && decide (j ∈ us.take m))))) (fun i _ => us.length - (intOf i).toNat)
      case atStart => exact ⟨0, f, Nat.zero_le _, rfl, HA4.out, Turn.refl _ _ _, fun j hj => by simp⟩
      case round =>
        obtain ⟨m, f', hm, rfl, harr', htq, hfm⟩ := hrel
        have hzq := htq.size
        by_cases hlt' : m < us.length
        · have hownq := own_turn HOU.out htq (fun q hq => .inr (by have := (HOU.out.lt q hq).1; simp at this; omega))
          obtain ⟨b', o', hua, hb', hcell⟩ := Row.owned hownq m _ (intVals_at us m hlt')
          have hcq : ∀ o v, w4.cell? ⟨G, o, none⟩ = some v → wr.cell? ⟨G, o, none⟩ = some v := fun o v hv => (World.cell?_of_block (htq.block G hG4 (.inr hG2))).trans hv
          obtain ⟨s1, s2, s3, s4⟩ := HS.out
          have y1 := hcq _ _ s1
          have y2 := hcq _ _ s2
          have y3 := hcq _ _ s3
          have y4 := hcq _ _ s4
          have hut := take_next us m hlt'
          generalize us[m] = n at *
          have HUT := Lib.hid hut
          have HARR' := Lib.hid harr'
          have HTQ := Lib.hid htq
          have HFM := Lib.hid hfm
          have HUA := Lib.hid hua
          subst hua
          have hfz := harr'.fr
          have hga := harr'.a
          have hgb := harr'.b
          have hgc := harr'.c
          have hgd := harr'.d
          clear hut harr' htq hfm hownq hcq s1 s2 s3 s4 hb'
          by_cases hl : 0 ≤ n ∧ n < 4
          · have h4 : n = 0 ∨ n = 1 ∨ n = 2 ∨ n = 3 := by omega
            have HLG := Lib.hid (fun W : World => logicB (decLy hl) W)
            clear hl
            rcases h4 with rfl | rfl | rfl | rfl
            · cases q0
              · go_wp2_with fail
                refine (HLG.out _).mono ?_
                rintro e w7 ⟨rfl, rfl⟩
                go_wp2_with fail
                go_roundw
                case rel =>
                  refine ⟨m + 1, f'.put 0, by omega, by go_num, HARR'.out.set 0 (by omega), HTQ.out.trans (turn_setA _ _ _ _), fun j hj => ?_⟩
                  rw [B4.get_put _ _ _ hj, HFM.out j hj, HUT.out]
                  exact free_step j hj _ _ (by rfl)
                case measure => simp [intOf]; omega
              · go_wp2_with fail
                refine (HLG.out _).mono ?_
                rintro e w7 ⟨rfl, rfl⟩
                go_wp2_with fail
                go_roundw
                case rel =>
                  refine ⟨m + 1, f', by omega, by go_num, HARR'.out, HTQ.out, fun j hj => ?_⟩
                  rw [HFM.out j hj, HUT.out]
                  exact bound_step j hj _ _ (by rfl)
                case measure => simp [intOf]; omega
            · cases q1
              · go_wp2_with fail
                refine (HLG.out _).mono ?_
                rintro e w7 ⟨rfl, rfl⟩
                go_wp2_with fail
                go_roundw
                case rel =>
                  refine ⟨m + 1, f'.put 1, by omega, by go_num, HARR'.out.set 1 (by omega), HTQ.out.trans (turn_setA _ _ _ _), fun j hj => ?_⟩
                  rw [B4.get_put _ _ _ hj, HFM.out j hj, HUT.out]
                  exact free_step j hj _ _ (by rfl)
                case measure => simp [intOf]; omega
              · go_wp2_with fail
                refine (HLG.out _).mono ?_
                rintro e w7 ⟨rfl, rfl⟩
                go_wp2_with fail
                go_roundw
                case rel =>
                  refine ⟨m + 1, f', by omega, by go_num, HARR'.out, HTQ.out, fun j hj => ?_⟩
                  rw [HFM.out j hj, HUT.out]
                  exact bound_step j hj _ _ (by rfl)
                case measure => simp [intOf]; omega
            · cases q2
              · go_wp2_with fail
                refine (HLG.out _).mono ?_
                rintro e w7 ⟨rfl, rfl⟩
                go_wp2_with fail
                go_roundw
                case rel =>
                  refine ⟨m + 1, f'.put 2, by omega, by go_num, HARR'.out.set 2 (by omega), HTQ.out.trans (turn_setA _ _ _ _), fun j hj => ?_⟩
                  rw [B4.get_put _ _ _ hj, HFM.out j hj, HUT.out]
                  exact free_step j hj _ _ (by rfl)
                case measure => simp [intOf]; omega
              · go_wp2_with fail
                refine (HLG.out _).mono ?_
                rintro e w7 ⟨rfl, rfl⟩
                go_wp2_with fail
                go_roundw
                case rel =>
                  refine ⟨m + 1, f', by omega, by go_num, HARR'.out, HTQ.out, fun j hj => ?_⟩
                  rw [HFM.out j hj, HUT.out]
                  exact bound_step j hj _ _ (by rfl)
                case measure => simp [intOf]; omega
            · cases q3
              · go_wp2_with fail
                refine (HLG.out _).mono ?_
                rintro e w7 ⟨rfl, rfl⟩
                go_wp2_with fail
                go_roundw
                case rel =>
                  refine ⟨m + 1, f'.put 3, by omega, by go_num, HARR'.out.set 3 (by omega), HTQ.out.trans (turn_setA _ _ _ _), fun j hj => ?_⟩
                  rw [B4.get_put _ _ _ hj, HFM.out j hj, HUT.out]
                  exact free_step j hj _ _ (by rfl)
                case measure => simp [intOf]; omega
              · go_wp2_with fail
                refine (HLG.out _).mono ?_
                rintro e w7 ⟨rfl, rfl⟩
                go_wp2_with fail
                go_roundw
                case rel =>
                  refine ⟨m + 1, f', by omega, by go_num, HARR'.out, HTQ.out, fun j hj => ?_⟩
                  rw [HFM.out j hj, HUT.out]
                  exact bound_step j hj _ _ (by rfl)
                case measure => simp [intOf]; omega
          · have HLG := Lib.hid (fun W : World => logicB (decL hl) W)
            have HNL := Lib.hid hl
            clear hl
            go_wp2_with fail
            refine (HLG.out _).mono ?_
            rintro e w7 ⟨rfl, rfl⟩
            go_wp2_with fail
            go_roundw
            case rel =>
              refine ⟨m + 1, f', by omega, by go_num, HARR'.out, HTQ.out, fun j hj => ?_⟩
              rw [HFM.out j hj, HUT.out]
              have hne : j ≠ n := fun e => HNL.out (e ▸ hj)
              simp [hne]
            case measure => simp [intOf]; omega
        · obtain rfl : m = us.length := by omega
          have HARR' := Lib.hid harr'
          have HTQ := Lib.hid htq
          have HFM := Lib.hid hfm
          clear harr' htq hfm
          go_wp2_with fail
          go_roundw
          case rel =>
            refine ⟨k + 1, f', by omega, by go_num, HARR'.out, HT4.out.trans HTQ.out, fun j hj => ?_⟩
            rw [HFM.out j hj, List.take_length, HNX.out j, HFK.out j hj, ← HUS.out]
            rfl
          case measure => simp [intOf]; omega
    · obtain rfl : k = L.length := by omega
      have hfin : ∀ j : Int, 0 ≤ j ∧ j < 4 → f.get j = x.er.freeF j false := fun j hj => by
        rw [hfk j hj, List.take_length, ← HFR.out j hj, Bool.eq_iff_iff, List.any_eq_true]
        constructor
        · rintro ⟨s, hs, ho⟩
          exact HUF.out s (HMET.out.sub s hs) j hj ((freeS_iff j hj s).2 (.inl ho))
        · intro hf
          have hfirst := HMET.out.first
          rw [← HR.out] at hf hfirst
          exact own_of_free hj HMET.out.closed x _ _ hfirst hf
      have hbits : bitsL f = freeL x.er := by
        unfold bitsL freeL
        refine List.filter_congr fun j hj => ?_
        refine hfin j ?_
        simp at hj
        omega
      have HBITS := Lib.hid hbits
      have HFIN := Lib.hid (show Below w.heap.size w wr from (htw.below (HB0.out.trans (HB2.out.mono (by omega))) (by omega) (by omega)))
      obtain ⟨W0, hW0⟩ : ∃ W, W = wr := ⟨_, rfl⟩
      subst hW0
      obtain ⟨g0, g1, g2, g3, _, _⟩ := harr
      obtain ⟨p0, p1, p2, p3⟩ := f
      simp only at g0 g1 g2 g3
      clear htw hfk hfin hbits
      go_wp2_with fail
      go_loopw [8, 42] (fun v i wq => ∃ m : Nat, m ≤ 4 ∧ i = .int .i64 m ∧ wq.ownsRow W0.heap.size 3 1 v (([0, 1, 2, 3] : List Int).take m |>.filter fun i => (B4.mk p0 p1 p2 p3).get i).length (intVals (([0, 1, 2, 3] : List Int).take m |>.filter fun i => (B4.mk p0 p1 p2 p3).get i)) ∧ Below W0.heap.size W0 wq) (fun _ i _ => 4 - (intOf i).toNat)
      case atStart => exact ⟨0, Nat.zero_le _, rfl, ⟨rfl, .inl ⟨rfl, rfl⟩⟩, Below.refl _ _⟩
      case round =>
        obtain ⟨m, hm, rfl, hownv, hbq⟩ := hrel
        have hzq := hbq.size
        have h5 : m = 0 ∨ m = 1 ∨ m = 2 ∨ m = 3 ∨ m = 4 := by omega
        rcases h5 with rfl | rfl | rfl | rfl | rfl
        · cases p0
          · have HV := Lib.hid hownv
            have HBQ := Lib.hid hbq
            clear hownv hbq
            have hix := index_at0 false p1 p2 p3
            go_wp2_with fail
            go_roundw
            case rel => exact ⟨1, by omega, by go_num, HV.out, HBQ.out⟩
            case measure => simp [intOf]
          · have HV := Lib.hid hownv
            have HBQ := Lib.hid hbq
            have hll := List.length_filter_le (fun i => (B4.mk true p1 p2 p3).get i) (([0, 1, 2, 3] : List Int).take 0)
            obtain ⟨ln, hln⟩ : ∃ n, (([0, 1, 2, 3] : List Int).take 0 |>.filter fun i => (B4.mk true p1 p2 p3).get i).length = n := ⟨_, rfl⟩
            have hll' : ln ≤ 4 := by rw [← hln]; exact Nat.le_trans hll (by simp)
            rw [hln] at HV
            have HLN := Lib.hid hln
            clear hownv hbq hll hln
            have hix := index_at0 true p1 p2 p3
            go_wp2_with (at_builtin; refine wpList_append_own_at _ rfl (.tmp 47) (.tmp 49) 37 rfl W0.heap.size 3 i0 (.int .i64 0) 1 8 Try.underlying37 hi hz0 hz1 hz2 rfl (by decide) _ ln _ rfl (HV.out.alloc _) ⟨wr.heap.size, 0, none⟩ 1 1 [.int .i64 0] rfl rfl (oneCell_at _) (oneCell_int _) (by unfold maxLen; omega) (by omega) (by simp; omega) ?_; intro v6 w6 hown6 hg6 _ hloc6)
            have hb6 := below_grown (HBQ.out.alloc hzq _) hg6 (by simp; omega) (fun k hk => (HV.out.lt k hk).1)
            clear hg6 hloc6
            go_wp2_with fail
            go_roundw
            case rel =>
              refine ⟨1, by omega, by go_num, ?_, hb6⟩
              have h1 := hown6
              rw [← HLN.out] at h1
              rw [row_at0 p1 p2 p3, List.length_append, intVals_snoc]
              exact h1
            case measure => simp [intOf]
        · cases p1
          · have HV := Lib.hid hownv
            have HBQ := Lib.hid hbq
            clear hownv hbq
            have hix := index_at1 p0 false p2 p3
            go_wp2_with fail
            go_roundw
            case rel => exact ⟨2, by omega, by go_num, HV.out, HBQ.out⟩
            case measure => simp [intOf]
          · have HV := Lib.hid hownv
            have HBQ := Lib.hid hbq
            have hll := List.length_filter_le (fun i => (B4.mk p0 true p2 p3).get i) (([0, 1, 2, 3] : List Int).take 1)
            obtain ⟨ln, hln⟩ : ∃ n, (([0, 1, 2, 3] : List Int).take 1 |>.filter fun i => (B4.mk p0 true p2 p3).get i).length = n := ⟨_, rfl⟩
            have hll' : ln ≤ 4 := by rw [← hln]; exact Nat.le_trans hll (by simp)
            rw [hln] at HV
            have HLN := Lib.hid hln
            clear hownv hbq hll hln
            have hix := index_at1 p0 true p2 p3
            go_wp2_with (at_builtin; refine wpList_append_own_at _ rfl (.tmp 47) (.tmp 49) 37 rfl W0.heap.size 3 i0 (.int .i64 0) 1 8 Try.underlying37 hi hz0 hz1 hz2 rfl (by decide) _ ln _ rfl (HV.out.alloc _) ⟨wr.heap.size, 0, none⟩ 1 1 [.int .i64 1] rfl rfl (oneCell_at _) (oneCell_int _) (by unfold maxLen; omega) (by omega) (by simp; omega) ?_; intro v6 w6 hown6 hg6 _ hloc6)
            have hb6 := below_grown (HBQ.out.alloc hzq _) hg6 (by simp; omega) (fun k hk => (HV.out.lt k hk).1)
            clear hg6 hloc6
            go_wp2_with fail
            go_roundw
            case rel =>
              refine ⟨2, by omega, by go_num, ?_, hb6⟩
              have h1 := hown6
              rw [← HLN.out] at h1
              rw [row_at1 p0 p2 p3, List.length_append, intVals_snoc]
              exact h1
            case measure => simp [intOf]
        · cases p2
          · have HV := Lib.hid hownv
            have HBQ := Lib.hid hbq
            clear hownv hbq
            have hix := index_at2 p0 p1 false p3
            go_wp2_with fail
            go_roundw
            case rel => exact ⟨3, by omega, by go_num, HV.out, HBQ.out⟩
            case measure => simp [intOf]
          · have HV := Lib.hid hownv
            have HBQ := Lib.hid hbq
            have hll := List.length_filter_le (fun i => (B4.mk p0 p1 true p3).get i) (([0, 1, 2, 3] : List Int).take 2)
            obtain ⟨ln, hln⟩ : ∃ n, (([0, 1, 2, 3] : List Int).take 2 |>.filter fun i => (B4.mk p0 p1 true p3).get i).length = n := ⟨_, rfl⟩
            have hll' : ln ≤ 4 := by rw [← hln]; exact Nat.le_trans hll (by simp)
            rw [hln] at HV
            have HLN := Lib.hid hln
            clear hownv hbq hll hln
            have hix := index_at2 p0 p1 true p3
            go_wp2_with (at_builtin; refine wpList_append_own_at _ rfl (.tmp 47) (.tmp 49) 37 rfl W0.heap.size 3 i0 (.int .i64 0) 1 8 Try.underlying37 hi hz0 hz1 hz2 rfl (by decide) _ ln _ rfl (HV.out.alloc _) ⟨wr.heap.size, 0, none⟩ 1 1 [.int .i64 2] rfl rfl (oneCell_at _) (oneCell_int _) (by unfold maxLen; omega) (by omega) (by simp; omega) ?_; intro v6 w6 hown6 hg6 _ hloc6)
            have hb6 := below_grown (HBQ.out.alloc hzq _) hg6 (by simp; omega) (fun k hk => (HV.out.lt k hk).1)
            clear hg6 hloc6
            go_wp2_with fail
            go_roundw
            case rel =>
              refine ⟨3, by omega, by go_num, ?_, hb6⟩
              have h1 := hown6
              rw [← HLN.out] at h1
              rw [row_at2 p0 p1 p3, List.length_append, intVals_snoc]
              exact h1
            case measure => simp [intOf]
        · cases p3
          · have HV := Lib.hid hownv
            have HBQ := Lib.hid hbq
            clear hownv hbq
            have hix := index_at3 p0 p1 p2 false
            go_wp2_with fail
            go_roundw
            case rel => exact ⟨4, by omega, by go_num, HV.out, HBQ.out⟩
            case measure => simp [intOf]
          · have HV := Lib.hid hownv
            have HBQ := Lib.hid hbq
            have hll := List.length_filter_le (fun i => (B4.mk p0 p1 p2 true).get i) (([0, 1, 2, 3] : List Int).take 3)
            obtain ⟨ln, hln⟩ : ∃ n, (([0, 1, 2, 3] : List Int).take 3 |>.filter fun i => (B4.mk p0 p1 p2 true).get i).length = n := ⟨_, rfl⟩
            have hll' : ln ≤ 4 := by rw [← hln]; exact Nat.le_trans hll (by simp)
            rw [hln] at HV
            have HLN := Lib.hid hln
            clear hownv hbq hll hln
            have hix := index_at3 p0 p1 p2 true
            go_wp2_with (at_builtin; refine wpList_append_own_at _ rfl (.tmp 47) (.tmp 49) 37 rfl W0.heap.size 3 i0 (.int .i64 0) 1 8 Try.underlying37 hi hz0 hz1 hz2 rfl (by decide) _ ln _ rfl (HV.out.alloc _) ⟨wr.heap.size, 0, none⟩ 1 1 [.int .i64 3] rfl rfl (oneCell_at _) (oneCell_int _) (by unfold maxLen; omega) (by omega) (by simp; omega) ?_; intro v6 w6 hown6 hg6 _ hloc6)
            have hb6 := below_grown (HBQ.out.alloc hzq _) hg6 (by simp; omega) (fun k hk => (HV.out.lt k hk).1)
            clear hg6 hloc6
            go_wp2_with fail
            go_roundw
            case rel =>
              refine ⟨4, by omega, by go_num, ?_, hb6⟩
              have h1 := hown6
              rw [← HLN.out] at h1
              rw [row_at3 p0 p1 p2, List.length_append, intVals_snoc]
              exact h1
            case measure => simp [intOf]
        · have HV := Lib.hid hownv
          have HBQ := Lib.hid hbq
          clear hownv hbq
          go_wp2_with fail
          go_ret
          rw [← HBITS.out]
          exact built_end (intVals_length _).symm (own_base HV.out (by have := HFIN.out.size; omega)) (HFIN.out.trans (HBQ.out.mono HFIN.out.size))
end Go.Proofs.Ythhhmlohfhioeaa
