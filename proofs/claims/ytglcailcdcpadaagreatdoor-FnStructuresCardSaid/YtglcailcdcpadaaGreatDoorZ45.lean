/-
  The draws of the law on structures: of what is drawn only the sizes are told.
-/
import Derived.Test.YtglcailcdcpadaaGreatDoorZ44
import Derived.Test.YtglcailcdcpadaaGreatDoorZ39
namespace Go.Proofs.YtglcailcdcpadaaGreatDoor
open Go Go.RowKit Go.ChangeAt Go.ChangeShapes Go.WideShapes

/-- A structure that a draw gave. -/
structure SomeS (w w' : World) (x : St) : Prop where
  bt : BtOk x
  rd : x.Rd w.heap.size w'.heap.size w'
theorem BtOk.fit {x : St} {lo hi : Nat} {W : World} (h : BtOk x) (hr : x.Rd lo hi W) : x.Fit := ⟨h.small, by have := h.n; omega, by have := h.z; omega, fun y hy => by have := h.each y hy; omega, hr.nil.1, hr.nil.2⟩
theorem BtOk.body {x y : St} (h : BtOk x) (e : y.body = x.body) : BtOk y := by
  have e1 : y.ns.map Nd.body = x.ns.map Nd.body := congrArg Prod.fst e
  have e2 : y.zs = x.zs := congrArg Prod.snd e
  refine ⟨by have := congrArg List.length e1; simp at this; have := h.n; omega, by rw [e2]; exact h.z, fun z hz => ?_⟩
  have hm : z.body ∈ x.ns.map Nd.body := by rw [← e1]; exact List.mem_map.2 ⟨z, hz, rfl⟩
  obtain ⟨v, hv, ev⟩ := List.mem_map.1 hm
  have h1 := h.each v hv
  have h2 : v.h.vs = z.h.vs ∧ v.h.zs = z.h.zs := by
    have := congrArg (fun b => b.1) ev
    simp only [Nd.body, Hp.body, Prod.mk.injEq] at this
    exact this
  rw [h2.1, h2.2] at h1
  exact h1
theorem some_st {w W : World} {lo hi : Nat} {x : St} (hB : Below w.heap.size w W) (hl : w.heap.size < lo) (hbt : BtOk x) (h : x.Rd lo hi W) (u0 u1 : Value) :
    SomeS w ((W.setCell ⟨w.heap.size, 0, none⟩ u0).setCell ⟨w.heap.size, 1, none⟩ u1) x ∧ Below w.heap.size w ((W.setCell ⟨w.heap.size, 0, none⟩ u0).setCell ⟨w.heap.size, 1, none⟩ u1) :=
  have tq : Turn w.heap.size (w.heap.size + 1) W ((W.setCell ⟨w.heap.size, 0, none⟩ u0).setCell ⟨w.heap.size, 1, none⟩ u1) := (turn_set _ _ _ _).trans (turn_set _ _ _ _)
  have h' := h.turn tq (.inr (by omega))
  ⟨⟨hbt, h'.mono (by omega) h'.nodes.1 (Nat.le_refl _)⟩, Turn.below hB tq (Nat.le_refl _) hB.size⟩
def GaveSt (w : World) (e : Ending) (w' : World) : Prop := ∃ x : St, e = .returned x.v ∧ SomeS w w' x ∧ Below w.heap.size w w'
set_option maxRecDepth 100000 in
set_option maxHeartbeats 800000 in
theorem drawDefinite (a : Option Addr) (n cap : Nat) (w : World) (hn : n ≤ 1099511627776) (hcode : Code8 w w.heap.size n a) : Calls Tryz.prog 8 #[.slice a n cap] w (GaveSt w) := by
  go_enter Tryz.func8, Tryz.ntmps8
  go_wp2_with fail
  obtain ⟨W0, hW0, hb0, bn0⟩ := one_boxL w [.slice none 0 0, .slice none 0 0] 27
  simp only [List.toArray] at hW0
  rw [hW0]
  clear hW0
  have hs0 := bn0.lt
  refine (drawNew a n cap _ hn ((hcode.keeps fun p hp => hb0.cell hp).grow hb0.size)).mono ?_
  rintro e w1 ⟨g, rfl, hg, hc1, hb1⟩
  have bn1 := bn0.below hb1
  have hB1 := hb0.trans (hb1.mono hb0.size)
  have hz1 := hb1.size
  have hg1 := hc1.lt
  clear bn0
  go_wp2_with fail
  refine (drawBentSt g _ hc1).mono ?_
  rintro e w2 ⟨x, rfl, hbt, hrd, D2⟩
  have bn2 := bn1.turn (turn_drawn D2.grown) (.inl (by omega))
  have hB2 := below_only hB1 D2.grown hB1.size (by omega)
  have h12 := D2.grown.size
  have hc2 := D2.cur
  clear bn1 D2
  have n0 := bn2.c 0 _ rfl
  have n1 := bn2.c 1 _ rfl
  have nf := bn2.f
  have hend := some_st hB2 (by omega) hbt hrd (.slice x.a x.ns.length x.ca) (.slice x.b x.zs.length x.cb)
  have HE := Lib.hid hend
  clear hend hrd bn2
  go_wp2
  exact bodyPost_ret (v := x.v) (by simp [results, Tryz.results8, go_sem, n0, n1]) rfl ⟨x, rfl, HE.out⟩
def GaveNumSt (w : World) (e : Ending) (w' : World) : Prop := ∃ (v : Int) (x : St), e = .returned (.tuple #[.int .i64 v, x.v]) ∧ SomeS w w' x ∧ Below w.heap.size w w'
set_option maxRecDepth 100000 in
set_option maxHeartbeats 1600000 in
theorem drawIsSt (a : Option Addr) (n cap : Nat) (w : World) (hn : n ≤ 1099511627776) (hcode : Code8 w w.heap.size n a) : Calls Tryz.prog 6 #[.slice a n cap] w (GaveNumSt w) := by
  go_enter Tryz.func6, Tryz.ntmps6
  go_wp2_with fail
  obtain ⟨W0, hW0, hb0, bn0⟩ := one_boxL w [.slice none 0 0, .slice none 0 0] 27
  simp only [List.toArray] at hW0
  rw [hW0]
  clear hW0
  have hs0 := bn0.lt
  refine (drawNew a n cap _ hn ((hcode.keeps fun p hp => hb0.cell hp).grow hb0.size)).mono ?_
  rintro e w1 ⟨g, rfl, hg, hc1, hb1⟩
  have bn1 := bn0.below hb1
  have hB1 := hb0.trans (hb1.mono hb0.size)
  have hz1 := hb1.size
  have hg1 := hc1.lt
  clear bn0
  go_wp2_with fail
  refine (drawBentSt g _ hc1).mono ?_
  rintro e w2 ⟨x, rfl, hbt, hrd, D2⟩
  have bn2 := bn1.turn (turn_drawn D2.grown) (.inl (by omega))
  have hB2 := below_only hB1 D2.grown hB1.size (by omega)
  have h12 := D2.grown.size
  have hc2 := D2.cur
  clear bn1 D2
  go_wp2_with fail
  obtain ⟨W3, hW3, hb3, bp3⟩ := one_boxL w2 [.slice x.a x.ns.length x.ca, .slice x.b x.zs.length x.cb] 27
  simp only [List.toArray] at hW3
  rw [hW3]
  clear hW3
  have bn3 := bn2.below hb3
  have hB3 := hB2.trans (hb3.mono hB2.size)
  have hrd3 := hrd.below hb3
  have hc3 := hc2.keeps hb3
  have hQ3 := bp3.lt
  have h23 := hb3.size
  clear bn2 hB2 hrd hc2 hb3
  have hd := Below.drew (Below.refl W3.heap.size W3)
  have hB1' := ((Below.refl W3.heap.size W3).alloc (Nat.le_refl _) (.cells #[.int .i64 3, .int .i64 3, .int .i64 3, .int .i64 2, .int .i64 0] 3)).drew
  have S1 : W3.drew.cell? ⟨w2.heap.size, 0, none⟩ = some (.slice x.a x.ns.length x.ca) ∧ W3.drew.cell? ⟨w2.heap.size, 1, none⟩ = some (.slice x.b x.zs.length x.cb) := ⟨(bp3.below hd).c 0 _ rfl, (bp3.below hd).c 1 _ rfl⟩
  have S2 : ∀ W, BoxL W w2.heap.size [.slice x.a x.ns.length x.ca, .slice x.b x.zs.length x.cb] → W.cell? ⟨w2.heap.size, 0, none⟩ = some (.slice x.a x.ns.length x.ca) ∧ W.cell? ⟨w2.heap.size, 1, none⟩ = some (.slice x.b x.zs.length x.cb) := fun W h => ⟨h.c 0 _ rfl, h.c 1 _ rfl⟩
  have HS2 := Lib.hid S2
  clear S2
  refine wp_region_keep (S := fun W => W.cell? ⟨w2.heap.size, 0, none⟩ = some (.slice x.a x.ns.length x.ca) ∧ W.cell? ⟨w2.heap.size, 1, none⟩ = some (.slice x.b x.zs.length x.cb)) (B := fun i => decide (i ≠ 5)) (by kernel_rfl) ?_
  refine anyKeep.take (i := 0) (v := ?_) rfl (by kernel_rfl) (by kernel_rfl) (by kernel_rfl) (by kernel_rfl) (fun _ _ _ h => h) rfl ?_ S1 ?_
  rotate_left
  · rintro w' ⟨h1, h2⟩
    go_simp
    try with_reducible rfl
  try simp only [Act.put, List.setIfInBounds_toArray]
  refine anyKeep.take (i := 3) (v := ?_) rfl (by kernel_rfl) (by kernel_rfl) (by kernel_rfl) (by kernel_rfl) (fun _ _ _ h => h) rfl ?_ S1 ?_
  rotate_left
  · rintro w' ⟨h1, h2⟩
    go_simp
    try with_reducible rfl
  try simp only [Act.put, List.setIfInBounds_toArray]
  refine anyKeep.one (k := 1) (by kernel_rfl) rfl (fun K hK => ?_)
  go_simp
  have hbes : Beside (W3.alloc (.cells #[.int .i64 3, .int .i64 3, .int .i64 3, .int .i64 2, .int .i64 0] 3)).drew g (some ⟨W3.heap.size, 0, none⟩) (intVals [3, 3, 3, 2, 0]) := beside_lit W3 [3, 3, 3, 2, 0] 3 #[.int .i64 3, .int .i64 3, .int .i64 3, .int .i64 2, .int .i64 0] rfl rfl hc3.lt
  refine hK _ _ (fun _ => HS2.out _ (bp3.below hB1')) ?_
  clear hK K
  try simp only [Act.put, List.setIfInBounds_toArray, List.set_cons_zero, List.set_cons_succ]
  refine anyKeep.one (k := 2) (by kernel_rfl) rfl (fun K hK => ?_)
  go_simp
  go_at_call 35
  refine (drawPickInt g 5 (some ⟨W3.heap.size, 0, none⟩) [3, 3, 3, 2, 0] _ (by decide) (by decide) (hc3.keeps hB1') hbes).mono ?_
  rintro e wA ⟨zv, hzv, rfl, hcA, hwA⟩
  obtain ⟨zi, _, rfl⟩ := List.mem_map.1 hzv
  have tA := turn_drawn hwA
  have bpA := (bp3.below hB1').turn tA (.inr (by omega))
  have bnA := (bn3.below hB1').turn tA (.inl (by omega))
  have hrdA := (hrd3.below hB1').turn tA (.inr (by omega))
  have hBA := below_only (hB3.trans (hB1'.mono hB3.size)) hwA (hB3.trans (hB1'.mono hB3.size)).size (by omega)
  have m0 := bnA.c 0 _ rfl
  have m1 := bnA.c 1 _ rfl
  have mf := bnA.f
  have ml := bnA.lt
  clear S1
  refine hK _ _ (fun _ => HS2.out _ bpA) ?_
  clear hK K
  try simp only [Act.put, List.setIfInBounds_toArray, List.set_cons_zero, List.set_cons_succ]
  refine anyKeep.one (k := 4) (by kernel_rfl) rfl (fun K hK => ?_)
  go_simp
  refine hK _ _ (fun _ => HS2.out _ bpA) ?_
  clear hK K
  try simp only [Act.put, List.setIfInBounds_toArray, List.set_cons_zero, List.set_cons_succ]
  refine anyKeep.one (k := 5) (by kernel_rfl) rfl (fun K hK => ?_)
  go_simp
  refine hK _ _ (fun e => by simp at e) ?_
  clear hK K
  try simp only [Act.put, List.setIfInBounds_toArray, List.set_cons_zero, List.set_cons_succ]
  refine anyKeep.done (by kernel_rfl) ?_
  have n0 := bnA.c 0 _ rfl
  have n1 := bnA.c 1 _ rfl
  have HE := Lib.hid (some_st hBA (by omega) hbt hrdA (.slice x.a x.ns.length x.ca) (.slice x.b x.zs.length x.cb))
  go_wp2
  exact bodyPost_ret (v := .tuple #[.int .i64 zi, x.v]) (by simp [results, Tryz.results6, go_sem, n0, n1]) rfl ⟨zi, x, rfl, HE.out⟩
def GaveStTwo (w : World) (e : Ending) (w' : World) : Prop := ∃ (x : St) (i j : Int), e = .returned (.tuple #[x.v, .int .i64 i, .int .i64 j]) ∧ SomeS w w' x ∧ Below w.heap.size w w'
set_option maxRecDepth 100000 in
set_option maxHeartbeats 1600000 in
theorem drawNextSt (a : Option Addr) (n cap : Nat) (w : World) (hn : n ≤ 1099511627776) (hcode : Code8 w w.heap.size n a) : Calls Tryz.prog 7 #[.slice a n cap] w (GaveStTwo w) := by
  go_enter Tryz.func7, Tryz.ntmps7
  go_wp2_with fail
  obtain ⟨W0, hW0, hb0, bn0⟩ := one_boxL w [.slice none 0 0, .slice none 0 0] 27
  simp only [List.toArray] at hW0
  rw [hW0]
  clear hW0
  have hs0 := bn0.lt
  refine (drawNew a n cap _ hn ((hcode.keeps fun p hp => hb0.cell hp).grow hb0.size)).mono ?_
  rintro e w1 ⟨g, rfl, hg, hc1, hb1⟩
  have bn1 := bn0.below hb1
  have hB1 := hb0.trans (hb1.mono hb0.size)
  have hz1 := hb1.size
  have hg1 := hc1.lt
  clear bn0
  go_wp2_with fail
  refine (drawBentSt g _ hc1).mono ?_
  rintro e w2 ⟨x, rfl, hbt, hrd, D2⟩
  have bn2 := bn1.turn (turn_drawn D2.grown) (.inl (by omega))
  have hB2 := below_only hB1 D2.grown hB1.size (by omega)
  have h12 := D2.grown.size
  have hc2 := D2.cur
  clear bn1 D2
  go_wp2_with fail
  obtain ⟨W3, hW3, hb3, bp3⟩ := one_boxL w2 [.slice x.a x.ns.length x.ca, .slice x.b x.zs.length x.cb] 27
  simp only [List.toArray] at hW3
  rw [hW3]
  clear hW3
  have bn3 := bn2.below hb3
  have hB3 := hB2.trans (hb3.mono hB2.size)
  have hrd3 := hrd.below hb3
  have hc3 := hc2.keeps hb3
  have hQ3 := bp3.lt
  have h23 := hb3.size
  clear bn2 hB2 hrd hc2 hb3
  refine (drawBelow g 5 _ (by omega) (by omega) hc3).mono ?_
  rintro e w4 ⟨z1, hz1', rfl, hc4, hw4⟩
  have hwr1 : IntKind.i64.wrap ((z1 : Int) - 1) = (z1 : Int) - 1 := wrap_one (by omega)
  have t4 := turn_drawn hw4
  have bp4 := bp3.turn t4 (.inr (by omega))
  have bn4 := bn3.turn t4 (.inl (by omega))
  have hrd4 := hrd3.turn t4 (.inr (by omega))
  have hB4 := below_only hB3 hw4 hB3.size (by omega)
  have hz4 := hw4.size
  clear bp3 bn3 hrd3 hB3 hw4 t4 hc3
  go_wp2
  have hd := Below.drew (Below.refl w4.heap.size w4)
  have HS2 := Lib.hid (fun (W : World) (h : BoxL W w2.heap.size [.slice x.a x.ns.length x.ca, .slice x.b x.zs.length x.cb]) => show W.cell? ⟨w2.heap.size, 0, none⟩ = some (.slice x.a x.ns.length x.ca) ∧ W.cell? ⟨w2.heap.size, 1, none⟩ = some (.slice x.b x.zs.length x.cb) from ⟨h.c 0 _ rfl, h.c 1 _ rfl⟩)
  have S1 := HS2.out _ (bp4.below hd)
  refine wp_region_keep (S := fun W => W.cell? ⟨w2.heap.size, 0, none⟩ = some (.slice x.a x.ns.length x.ca) ∧ W.cell? ⟨w2.heap.size, 1, none⟩ = some (.slice x.b x.zs.length x.cb)) (B := fun _ => true) (by kernel_rfl) ?_
  refine anyKeep.take (i := 0) (v := ?_) rfl (by kernel_rfl) (by kernel_rfl) (by kernel_rfl) (by kernel_rfl) (fun _ _ _ h => h) rfl ?_ S1 ?_
  rotate_left
  · rintro w' ⟨h1, h2⟩
    go_simp
    try with_reducible rfl
  try simp only [Act.put, List.setIfInBounds_toArray]
  refine anyKeep.take (i := 1) (v := ?_) rfl (by kernel_rfl) (by kernel_rfl) (by kernel_rfl) (by kernel_rfl) (fun _ _ _ h => h) rfl ?_ S1 ?_
  rotate_left
  · rintro w' ⟨h1, h2⟩
    go_simp
    try with_reducible rfl
  try simp only [Act.put, List.setIfInBounds_toArray]
  refine anyKeep.take (i := 2) (v := ?_) rfl (by kernel_rfl) (by kernel_rfl) (by kernel_rfl) (by kernel_rfl) (fun _ _ _ h => h) rfl ?_ S1 ?_
  rotate_left
  · rintro w' ⟨h1, h2⟩
    go_simp
    try with_reducible rfl
  try simp only [Act.put, List.setIfInBounds_toArray]
  refine anyKeep.one (k := 3) (by kernel_rfl) rfl (fun K hK => ?_)
  go_simp
  go_at_call 36
  refine (drawBelow g 5 _ (by omega) (by omega) (hc4.keeps hd)).mono ?_
  rintro e wA ⟨z2, hz2', rfl, hcA, hwA⟩
  have hwr2 : IntKind.i64.wrap ((z2 : Int) - 1) = (z2 : Int) - 1 := wrap_one (by omega)
  have tA := turn_drawn hwA
  have bpA := (bp4.below hd).turn tA (.inr (by omega))
  have bnA := (bn4.below hd).turn tA (.inl (by omega))
  have hrdA := (hrd4.below hd).turn tA (.inr (by omega))
  have hBA := below_only (hB4.trans (hd.mono hB4.size)) hwA (hB4.trans (hd.mono hB4.size)).size (by omega)
  have m0 := bnA.c 0 _ rfl
  have m1 := bnA.c 1 _ rfl
  have mf := bnA.f
  have ml := bnA.lt
  clear S1
  refine hK _ _ (fun _ => HS2.out _ bpA) ?_
  clear hK K
  try simp only [Act.put, List.setIfInBounds_toArray, List.set_cons_zero, List.set_cons_succ]
  have S2 := HS2.out _ bpA
  refine anyKeep.take (i := 4) (v := ?_) rfl (by kernel_rfl) (by kernel_rfl) (by kernel_rfl) (by kernel_rfl) (fun _ _ _ h => h) rfl ?_ S2 ?_
  rotate_left
  · rintro w' ⟨h1, h2⟩
    go_simp
    try with_reducible rfl
  try simp only [Act.put, List.setIfInBounds_toArray]
  have tq : Turn w.heap.size (w.heap.size + 1) wA ((wA.setCell ⟨w.heap.size, 0, none⟩ (.slice x.a x.ns.length x.ca)).setCell ⟨w.heap.size, 1, none⟩ (.slice x.b x.zs.length x.cb)) := (turn_set _ _ _ _).trans (turn_set _ _ _ _)
  have S3 := HS2.out _ (bpA.turn tq (.inr (by omega)))
  refine anyKeep.one (k := 5) (by kernel_rfl) rfl (fun K hK => ?_)
  go_simp
  refine hK _ _ (fun _ => S3) ?_
  clear hK K
  try simp only [Act.put, List.setIfInBounds_toArray, List.set_cons_zero, List.set_cons_succ]
  refine anyKeep.one (k := 6) (by kernel_rfl) rfl (fun K hK => ?_)
  go_simp
  refine hK _ _ (fun _ => S3) ?_
  clear hK K
  try simp only [Act.put, List.setIfInBounds_toArray, List.set_cons_zero, List.set_cons_succ]
  refine anyKeep.one (k := 7) (by kernel_rfl) rfl (fun K hK => ?_)
  go_simp
  refine hK _ _ (fun _ => S3) ?_
  clear hK K
  try simp only [Act.put, List.setIfInBounds_toArray, List.set_cons_zero, List.set_cons_succ]
  refine anyKeep.done (by kernel_rfl) ?_
  have HE := Lib.hid (some_st hBA (by omega) hbt hrdA (.slice x.a x.ns.length x.ca) (.slice x.b x.zs.length x.cb))
  clear S2 S3 tq
  go_wp2
  exact bodyPost_ret (v := .tuple #[x.v, .int .i64 ((z1 : Int) - 1), .int .i64 ((z2 : Int) - 1)]) (by simp [results, Tryz.results7, go_sem, m0, m1]) rfl ⟨x, (z1 : Int) - 1, (z2 : Int) - 1, rfl, HE.out⟩
/-- Names and a structure. -/
def GaveTextSt (w : World) (e : Ending) (w' : World) : Prop :=
  ∃ (ss : List ByteArray) (v : Option Addr) (x : St), e = .returned (.tuple #[.slice v ss.length 3, x.v]) ∧ (ss.length ≤ 3 ∧ ∀ s ∈ ss, s.size ≤ 1) ∧ RowIn w.heap.size w'.heap.size w' v (strVals ss) ∧ SomeS w w' x ∧ Below w.heap.size w w'
set_option maxRecDepth 100000 in
set_option maxHeartbeats 1600000 in
theorem drawTextSt (a : Option Addr) (n cap : Nat) (w : World) (hn : n ≤ 1099511627776) (hcode : Code8 w w.heap.size n a) : Calls Tryz.prog 9 #[.slice a n cap] w (GaveTextSt w) := by
  go_enter Tryz.func9, Tryz.ntmps9
  go_wp2_with fail
  obtain ⟨W0, hW0, hb0, bn0⟩ := one_boxL w [.slice none 0 0, .slice none 0 0] 27
  simp only [List.toArray] at hW0
  rw [hW0]
  clear hW0
  have hs0 := bn0.lt
  refine (drawNames3 _).mono ?_
  rintro e w1 ⟨rfl, hw1⟩
  have hb1 : Below W0.heap.size W0 w1 := by rw [← hw1]; exact (Below.refl _ _).alloc (Nat.le_refl _) _
  have r1 : RowIn W0.heap.size (W0.heap.size + 1) w1 (some ⟨W0.heap.size, 0, none⟩) (strVals names3) := by rw [← hw1]; exact rowIn_new W0 _ _
  clear hw1
  have hB1 := hb0.trans (hb1.mono hb0.size)
  have hz1 := hb1.size
  go_wp2_with fail
  refine (drawNew a n cap _ hn ((hcode.keeps fun p hp => hB1.cell hp).grow hB1.size)).mono ?_
  rintro e w3 ⟨g, rfl, hg, hc3, hb3⟩
  have hg3 := hc3.lt
  have hz3 := hb3.size
  have hB3 := hB1.trans (hb3.mono hB1.size)
  go_wp2_with fail
  refine (drawBentSt g _ hc3).mono ?_
  rintro e w2 ⟨x, rfl, hbt, hrd, D2⟩
  have t2 := turn_drawn D2.grown
  have bn2 := ((bn0.below hb1).below hb3).turn t2 (.inl (by omega))
  have r2 := (r1.below hb3).turn t2 (.inl (by have := r1.1; omega))
  have hB2 := below_only hB3 D2.grown hB3.size (by omega)
  have n0 := bn2.c 0 _ rfl
  have n1 := bn2.c 1 _ rfl
  have nf := bn2.f
  have tq : Turn w.heap.size (w.heap.size + 1) w2 ((w2.setCell ⟨w.heap.size, 0, none⟩ (.slice x.a x.ns.length x.ca)).setCell ⟨w.heap.size, 1, none⟩ (.slice x.b x.zs.length x.cb)) := (turn_set _ _ _ _).trans (turn_set _ _ _ _)
  have h12 := D2.grown.size
  have hend := And.intro ((r2.turn tq (.inr (by omega))).mono (Nat.le_of_lt hs0) (r2.turn tq (.inr (by omega))).1 (Nat.le_refl _)) (some_st hB2 (by omega) hbt hrd (.slice x.a x.ns.length x.ca) (.slice x.b x.zs.length x.cb))
  have HE := Lib.hid hend
  clear hend hrd tq bn0 bn2 r1 r2 D2
  go_wp2
  exact bodyPost_ret (v := .tuple #[.slice (some ⟨W0.heap.size, 0, none⟩) 3 3, x.v]) (by simp [results, Tryz.results9, go_sem, n0, n1]) rfl ⟨names3, some ⟨W0.heap.size, 0, none⟩, x, rfl, ⟨by decide, names3_size⟩, HE.out⟩
/-- Two structures. -/
def GaveStSt (w : World) (e : Ending) (w' : World) : Prop := ∃ x y : St, e = .returned (.tuple #[x.v, y.v]) ∧ (BtOk x ∧ BtOk y) ∧ (x.At w' ∧ y.At w') ∧ (x.zs.length ≤ x.cb ∧ y.zs.length ≤ y.cb) ∧ Below w.heap.size w w'
theorem two_sts {w W : World} {lo hi lo' hi' : Nat} {x y : St} (hB : Below w.heap.size w W) (hl : w.heap.size + 1 < lo) (hl' : w.heap.size + 1 < lo') (h : x.Rd lo hi W) (h' : y.Rd lo' hi' W) (u0 u1 u2 u3 : Value) :
    (x.At ((((W.setCell ⟨w.heap.size, 0, none⟩ u0).setCell ⟨w.heap.size, 1, none⟩ u1).setCell ⟨w.heap.size + 1, 0, none⟩ u2).setCell ⟨w.heap.size + 1, 1, none⟩ u3) ∧ y.At ((((W.setCell ⟨w.heap.size, 0, none⟩ u0).setCell ⟨w.heap.size, 1, none⟩ u1).setCell ⟨w.heap.size + 1, 0, none⟩ u2).setCell ⟨w.heap.size + 1, 1, none⟩ u3)) ∧ (x.zs.length ≤ x.cb ∧ y.zs.length ≤ y.cb) ∧
      Below w.heap.size w ((((W.setCell ⟨w.heap.size, 0, none⟩ u0).setCell ⟨w.heap.size, 1, none⟩ u1).setCell ⟨w.heap.size + 1, 0, none⟩ u2).setCell ⟨w.heap.size + 1, 1, none⟩ u3) :=
  have t1 : Turn w.heap.size (w.heap.size + 2) W ((W.setCell ⟨w.heap.size, 0, none⟩ u0).setCell ⟨w.heap.size, 1, none⟩ u1) := ((turn_set _ _ _ _).trans (turn_set _ _ _ _)).mono (Nat.le_refl _) (by omega)
  have t2 : Turn w.heap.size (w.heap.size + 2) ((W.setCell ⟨w.heap.size, 0, none⟩ u0).setCell ⟨w.heap.size, 1, none⟩ u1) ((((W.setCell ⟨w.heap.size, 0, none⟩ u0).setCell ⟨w.heap.size, 1, none⟩ u1).setCell ⟨w.heap.size + 1, 0, none⟩ u2).setCell ⟨w.heap.size + 1, 1, none⟩ u3) := ((turn_set _ _ _ _).trans (turn_set _ _ _ _)).mono (by omega) (by omega)
  have tq := t1.trans t2
  ⟨⟨(h.turn tq (.inr (by omega))).at_, (h'.turn tq (.inr (by omega))).at_⟩, ⟨h.cap, h'.cap⟩, Turn.below hB tq (Nat.le_refl _) hB.size⟩
set_option maxRecDepth 100000 in
set_option maxHeartbeats 3200000 in
theorem drawEqSt (a : Option Addr) (n cap : Nat) (w : World) (hn : n ≤ 1099511627776) (hcode : Code8 w w.heap.size n a) : Calls Tryz.prog 10 #[.slice a n cap] w (GaveStSt w) := by
  go_enter Tryz.func10, Tryz.ntmps10
  go_wp2_with fail
  obtain ⟨W0, hW0, hb0, bn0, bm0⟩ := two_boxL w [.slice none 0 0, .slice none 0 0] [.slice none 0 0, .slice none 0 0] 27 27
  simp only [List.toArray] at hW0
  rw [hW0]
  clear hW0
  have hs0 := bm0.lt
  refine (drawNew a n cap _ hn ((hcode.keeps fun p hp => hb0.cell hp).grow hb0.size)).mono ?_
  rintro e w1 ⟨g, rfl, hg, hc1, hb1⟩
  have bn1 := bn0.below hb1
  have bm1 := bm0.below hb1
  have hB1 := hb0.trans (hb1.mono hb0.size)
  have hz1 := hb1.size
  have hg1 := hc1.lt
  clear bn0 bm0
  go_wp2_with fail
  refine (drawBentSt g _ hc1).mono ?_
  rintro e w2 ⟨x, rfl, hbt, hrd, D2⟩
  have bn2 := bn1.turn (turn_drawn D2.grown) (.inl (by omega))
  have bm2 := bm1.turn (turn_drawn D2.grown) (.inl (by omega))
  have hB2 := below_only hB1 D2.grown hB1.size (by omega)
  have h12 := D2.grown.size
  have hc2 := D2.cur
  clear bn1 bm1 D2
  go_wp2_with fail
  obtain ⟨W3, hW3, hb3, bp3⟩ := one_boxL w2 [.slice x.a x.ns.length x.ca, .slice x.b x.zs.length x.cb] 27
  simp only [List.toArray] at hW3
  rw [hW3]
  clear hW3
  have bn3 := bn2.below hb3
  have bm3 := bm2.below hb3
  have hB3 := hB2.trans (hb3.mono hB2.size)
  have hrd3 := hrd.below hb3
  have hc3 := hc2.keeps hb3
  have hQ3 := bp3.lt
  have h23 := hb3.size
  clear bn2 bm2 hB2 hrd hc2 hb3
  refine (drawOnce g 2 _ (by omega) (by omega) hc3).mono ?_
  rintro e w4 ⟨fl, rfl, hc4, hw4⟩
  have t4 := turn_drawn hw4
  have bp4 := bp3.turn t4 (.inr (by omega))
  have bn4 := bn3.turn t4 (.inl (by omega))
  have bm4 := bm3.turn t4 (.inl (by omega))
  have hrd4 := hrd3.turn t4 (.inr (by omega))
  have hB4 := below_only hB3 hw4 hB3.size (by omega)
  have hz4 := hw4.size
  clear bp3 bn3 bm3 hrd3 hB3 hw4 t4 hc3
  have hd := Below.drew (Below.refl w4.heap.size w4)
  have HS2 := Lib.hid (fun (W : World) (h : BoxL W w2.heap.size [.slice x.a x.ns.length x.ca, .slice x.b x.zs.length x.cb]) => show W.cell? ⟨w2.heap.size, 0, none⟩ = some (.slice x.a x.ns.length x.ca) ∧ W.cell? ⟨w2.heap.size, 1, none⟩ = some (.slice x.b x.zs.length x.cb) from ⟨h.c 0 _ rfl, h.c 1 _ rfl⟩)
  have S1 := HS2.out _ (bp4.below hd)
  cases fl with
  | true =>
    go_wp2
    refine wp_region_keep (S := fun W => W.cell? ⟨w2.heap.size, 0, none⟩ = some (.slice x.a x.ns.length x.ca) ∧ W.cell? ⟨w2.heap.size, 1, none⟩ = some (.slice x.b x.zs.length x.cb)) (B := fun _ => true) (by kernel_rfl) ?_
    refine anyKeep.take (i := 0) (v := ?_) rfl (by kernel_rfl) (by kernel_rfl) (by kernel_rfl) (by kernel_rfl) (fun _ _ _ h => h) rfl ?_ S1 ?_
    rotate_left
    · rintro w' ⟨h1, h2⟩
      go_simp
      try with_reducible rfl
    try simp only [Act.put, List.setIfInBounds_toArray]
    refine anyKeep.take (i := 1) (v := ?_) rfl (by kernel_rfl) (by kernel_rfl) (by kernel_rfl) (by kernel_rfl) (fun _ _ _ h => h) rfl ?_ S1 ?_
    rotate_left
    · rintro w' ⟨h1, h2⟩
      go_simp
      try with_reducible rfl
    try simp only [Act.put, List.setIfInBounds_toArray]
    refine anyKeep.one (k := 2) (by kernel_rfl) rfl (fun K hK => ?_)
    go_simp
    go_at_call 39
    (with_reducible refine (specCopySt x _ (hbt.fit hrd4) (hrd4.below hd).at_).mono ?_)
    rintro e wA ⟨y, hy, rfl, hiny, hbA⟩
    have hbty := hbt.body hy
    have hrdy := hiny.rd
    have bpA := (bp4.below hd).below hbA
    have bnA := (bn4.below hd).below hbA
    have bmA := (bm4.below hd).below hbA
    have hrdA := (hrd4.below hd).below hbA
    have hBA := (hB4.trans (hd.mono hB4.size)).trans (hbA.mono (hB4.trans (hd.mono hB4.size)).size)
    have hloy : w.heap.size + 1 < w4.drew.heap.size := by simp only [World.size_drew]; omega
    have m0 := bnA.c 0 _ rfl
    have m1 := bnA.c 1 _ rfl
    have mf := bnA.f
    have ml := bnA.lt
    have k0 := bmA.c 0 _ rfl
    have k1 := bmA.c 1 _ rfl
    have kf := bmA.f
    have kl := bmA.lt
    clear S1
    refine hK _ _ (fun _ => HS2.out _ bpA) ?_
    clear hK K
    try simp only [Act.put, List.setIfInBounds_toArray, List.set_cons_zero, List.set_cons_succ]
    have tq : Turn w.heap.size (w.heap.size + 2) wA ((wA.setCell ⟨w.heap.size, 0, none⟩ (.slice x.a x.ns.length x.ca)).setCell ⟨w.heap.size, 1, none⟩ (.slice x.b x.zs.length x.cb)) := ((turn_set _ _ _ _).trans (turn_set _ _ _ _)).mono (Nat.le_refl _) (by omega)
    have S3 := HS2.out _ (bpA.turn tq (.inr (by omega)))
    have tq2 : Turn w.heap.size (w.heap.size + 2) ((wA.setCell ⟨w.heap.size, 0, none⟩ (.slice x.a x.ns.length x.ca)).setCell ⟨w.heap.size, 1, none⟩ (.slice x.b x.zs.length x.cb)) ((((wA.setCell ⟨w.heap.size, 0, none⟩ (.slice x.a x.ns.length x.ca)).setCell ⟨w.heap.size, 1, none⟩ (.slice x.b x.zs.length x.cb)).setCell ⟨w.heap.size + 1, 0, none⟩ (.slice y.a y.ns.length y.ca)).setCell ⟨w.heap.size + 1, 1, none⟩ (.slice y.b y.zs.length y.cb)) := ((turn_set _ _ _ _).trans (turn_set _ _ _ _)).mono (by omega) (by omega)
    have S4 := HS2.out _ ((bpA.turn tq (.inr (by omega))).turn tq2 (.inr (by omega)))
    refine anyKeep.one (k := 3) (by kernel_rfl) rfl (fun K hK => ?_)
    go_simp
    refine hK _ _ (fun _ => S3) ?_
    clear hK K
    try simp only [Act.put, List.setIfInBounds_toArray, List.set_cons_zero, List.set_cons_succ]
    refine anyKeep.one (k := 4) (by kernel_rfl) rfl (fun K hK => ?_)
    go_simp
    refine hK _ _ (fun _ => S4) ?_
    clear hK K
    try simp only [Act.put, List.setIfInBounds_toArray, List.set_cons_zero, List.set_cons_succ]
    refine anyKeep.done (by kernel_rfl) ?_
    have HE := Lib.hid (two_sts hBA (by omega) hloy hrdA hrdy (.slice x.a x.ns.length x.ca) (.slice x.b x.zs.length x.cb) (.slice y.a y.ns.length y.ca) (.slice y.b y.zs.length y.cb))
    clear S3 S4 tq tq2 hrdy hrdA bpA
    go_wp2
    exact bodyPost_ret (v := .tuple #[x.v, y.v]) (by simp [results, Tryz.results10, go_sem, m0, m1, k0, k1]) rfl ⟨x, y, rfl, ⟨hbt, hbty⟩, HE.out⟩
  | false =>
    go_wp2
    refine wp_region_keep (S := fun W => W.cell? ⟨w2.heap.size, 0, none⟩ = some (.slice x.a x.ns.length x.ca) ∧ W.cell? ⟨w2.heap.size, 1, none⟩ = some (.slice x.b x.zs.length x.cb)) (B := fun _ => true) (by kernel_rfl) ?_
    refine anyKeep.take (i := 0) (v := ?_) rfl (by kernel_rfl) (by kernel_rfl) (by kernel_rfl) (by kernel_rfl) (fun _ _ _ h => h) rfl ?_ S1 ?_
    rotate_left
    · rintro w' ⟨h1, h2⟩
      go_simp
      try with_reducible rfl
    try simp only [Act.put, List.setIfInBounds_toArray]
    refine anyKeep.take (i := 1) (v := ?_) rfl (by kernel_rfl) (by kernel_rfl) (by kernel_rfl) (by kernel_rfl) (fun _ _ _ h => h) rfl ?_ S1 ?_
    rotate_left
    · rintro w' ⟨h1, h2⟩
      go_simp
      try with_reducible rfl
    try simp only [Act.put, List.setIfInBounds_toArray]
    refine anyKeep.one (k := 2) (by kernel_rfl) rfl (fun K hK => ?_)
    go_simp
    go_at_call 34
    (with_reducible refine (drawBentSt g _ (hc4.keeps hd)).mono ?_)
    rintro e wA ⟨y, rfl, hbty, hrdy, DA⟩
    have tA := turn_drawn DA.grown
    have bpA := (bp4.below hd).turn tA (.inr (by omega))
    have bnA := (bn4.below hd).turn tA (.inl (by omega))
    have bmA := (bm4.below hd).turn tA (.inl (by omega))
    have hrdA := (hrd4.below hd).turn tA (.inr (by omega))
    have hBA := below_only (hB4.trans (hd.mono hB4.size)) DA.grown (hB4.trans (hd.mono hB4.size)).size (by omega)
    have hloy : w.heap.size + 1 < w4.drew.heap.size := by simp only [World.size_drew]; omega
    have m0 := bnA.c 0 _ rfl
    have m1 := bnA.c 1 _ rfl
    have mf := bnA.f
    have ml := bnA.lt
    have k0 := bmA.c 0 _ rfl
    have k1 := bmA.c 1 _ rfl
    have kf := bmA.f
    have kl := bmA.lt
    clear S1
    refine hK _ _ (fun _ => HS2.out _ bpA) ?_
    clear hK K
    try simp only [Act.put, List.setIfInBounds_toArray, List.set_cons_zero, List.set_cons_succ]
    have tq : Turn w.heap.size (w.heap.size + 2) wA ((wA.setCell ⟨w.heap.size, 0, none⟩ (.slice x.a x.ns.length x.ca)).setCell ⟨w.heap.size, 1, none⟩ (.slice x.b x.zs.length x.cb)) := ((turn_set _ _ _ _).trans (turn_set _ _ _ _)).mono (Nat.le_refl _) (by omega)
    have S3 := HS2.out _ (bpA.turn tq (.inr (by omega)))
    have tq2 : Turn w.heap.size (w.heap.size + 2) ((wA.setCell ⟨w.heap.size, 0, none⟩ (.slice x.a x.ns.length x.ca)).setCell ⟨w.heap.size, 1, none⟩ (.slice x.b x.zs.length x.cb)) ((((wA.setCell ⟨w.heap.size, 0, none⟩ (.slice x.a x.ns.length x.ca)).setCell ⟨w.heap.size, 1, none⟩ (.slice x.b x.zs.length x.cb)).setCell ⟨w.heap.size + 1, 0, none⟩ (.slice y.a y.ns.length y.ca)).setCell ⟨w.heap.size + 1, 1, none⟩ (.slice y.b y.zs.length y.cb)) := ((turn_set _ _ _ _).trans (turn_set _ _ _ _)).mono (by omega) (by omega)
    have S4 := HS2.out _ ((bpA.turn tq (.inr (by omega))).turn tq2 (.inr (by omega)))
    refine anyKeep.one (k := 3) (by kernel_rfl) rfl (fun K hK => ?_)
    go_simp
    refine hK _ _ (fun _ => S3) ?_
    clear hK K
    try simp only [Act.put, List.setIfInBounds_toArray, List.set_cons_zero, List.set_cons_succ]
    refine anyKeep.one (k := 4) (by kernel_rfl) rfl (fun K hK => ?_)
    go_simp
    refine hK _ _ (fun _ => S4) ?_
    clear hK K
    try simp only [Act.put, List.setIfInBounds_toArray, List.set_cons_zero, List.set_cons_succ]
    refine anyKeep.done (by kernel_rfl) ?_
    have HE := Lib.hid (two_sts hBA (by omega) hloy hrdA hrdy (.slice x.a x.ns.length x.ca) (.slice x.b x.zs.length x.cb) (.slice y.a y.ns.length y.ca) (.slice y.b y.zs.length y.cb))
    clear S3 S4 tq tq2 hrdy hrdA bpA
    go_wp2
    exact bodyPost_ret (v := .tuple #[x.v, y.v]) (by simp [results, Tryz.results10, go_sem, m0, m1, k0, k1]) rfl ⟨x, y, rfl, ⟨hbt, hbty⟩, HE.out⟩
end Go.Proofs.YtglcailcdcpadaaGreatDoor
