/-
  The model's node of a group.
-/
import Derived.Test.YtglcailcdcpadaaGreatDoorZ23
import Derived.Test.YtglcailcdcpadaaGreatDoorZ25
import Derived.Test.YtglcailcdcpadaaGreatDoorZ02
import Derived.Test.YtglcailcdcpadaaGreatDoorZ13
import Derived.Test.YtglcailcdcpadaaGreatDoorZ01
namespace Go.Proofs.YtglcailcdcpadaaGreatDoor
open Go Go.RowKit

/-- A row that is nil has no room. -/
def Nd.Nil (y : Nd) : Prop := (y.h.a = none → y.h.ca = 0) ∧ (y.h.b = none → y.h.cb = 0)
def manyK (s : SBody) (g : List Int) (k : Nat) (m : Int) : Int := if (1 < g.length ∧ 0 < k) ∨ (g.take k).any (fun i => (s.1.getD i.toNat zeroB).2.2 != 0) = true then 1 else m
theorem manyK_zero (s : SBody) (g : List Int) (m : Int) : manyK s g 0 m = m := by simp [manyK]
theorem manyK_set {s : SBody} {g : List Int} {k : Nat} {m : Int} (hk : k < g.length) (h : 1 < g.length ∨ ((s.1.getD (g[k]).toNat zeroB).2.2 != 0) = true) : manyK s g (k + 1) m = 1 := by
  unfold manyK
  rw [if_pos]
  rcases h with h | h
  · exact .inl ⟨h, by omega⟩
  · refine .inr ?_
    rw [take_next g k hk, List.any_append]
    simp only [List.any_cons, List.any_nil, Bool.or_false, h, Bool.or_true]
theorem manyK_same {s : SBody} {g : List Int} {k : Nat} {m : Int} (hk : k < g.length) (h1 : ¬ 1 < g.length) (h : ((s.1.getD (g[k]).toNat zeroB).2.2 != 0) = false) : manyK s g (k + 1) m = manyK s g k m := by
  have : (g.take (k + 1)).any (fun i => (s.1.getD i.toNat zeroB).2.2 != 0) = (g.take k).any (fun i => (s.1.getD i.toNat zeroB).2.2 != 0) := by
    rw [take_next g k hk, List.any_append]
    simp only [List.any_cons, List.any_nil, Bool.or_false, h, Bool.or_false]
  simp only [manyK, this, h1, false_and]
theorem groupN_eq (s : SBody) (g : List Int) (h0 : 0 < g.length) : groupN s g = ((s.1.getD (g.headD 0).toNat zeroB).1, (s.1.getD (g.headD 0).toNat zeroB).2.1, manyK s g g.length (s.1.getD (g.headD 0).toNat zeroB).2.2) := by
  simp only [groupN, manyK, List.take_length, h0, and_true]
/-- The node in the making, in its box beside the others. -/
structure Nb (w : World) (u0 u1 : Value) (Q : Nat) (h : Hp) (s m : Int) (W : World) : Prop where
  below : Below w.heap.size w W
  arg : BoxL W w.heap.size [u0, u1]
  res : BoxL W (w.heap.size + 1) [.slice none 0 0, .slice none 0 0, .int .i64 0, .int .i64 0]
  box : BoxL W Q [.slice h.a h.vs.length h.ca, .slice h.b h.zs.length h.cb, .int .i64 s, .int .i64 m]
  rows : h.In (w.heap.size + 2) W.heap.size W
  off : ¬ h.has Q
  lo : w.heap.size + 2 ≤ Q
theorem nb_start {w W : World} {u0 u1 : Value} {Q B : Nat} {h : Hp} {s m : Int} (hB : Below w.heap.size w W) (ha : BoxL W w.heap.size [u0, u1]) (hr : BoxL W (w.heap.size + 1) [.slice none 0 0, .slice none 0 0, .int .i64 0, .int .i64 0]) (hb : BoxL W Q [.slice none 0 0, .slice none 0 0, .int .i64 0, .int .i64 0])
    (hin : h.In B W.heap.size W) (hl : w.heap.size + 2 ≤ B) (hoff : ¬ h.has Q) (hq : w.heap.size + 2 ≤ Q) :
    Nb w u0 u1 Q h s m ((((W.setCell ⟨Q, 0, none⟩ (.slice h.a h.vs.length h.ca)).setCell ⟨Q, 1, none⟩ (.slice h.b h.zs.length h.cb)).setCell ⟨Q, 2, none⟩ (.int .i64 s)).setCell ⟨Q, 3, none⟩ (.int .i64 m)) := by
  have tq : Turn Q (Q + 1) W ((((W.setCell ⟨Q, 0, none⟩ (.slice h.a h.vs.length h.ca)).setCell ⟨Q, 1, none⟩ (.slice h.b h.zs.length h.cb)).setCell ⟨Q, 2, none⟩ (.int .i64 s)).setCell ⟨Q, 3, none⟩ (.int .i64 m)) := (((turn_set _ _ _ _).trans (turn_set _ _ _ _)).trans (turn_set _ _ _ _)).trans (turn_set _ _ _ _)
  exact ⟨tq.below hB (by omega) hB.size, ha.turn tq (.inl (by omega)), hr.turn tq (.inl (by omega)), (((hb.set 0 _).set 1 _).set 2 _).set 3 _,
    (hin.same tq.size fun k hk => tq.block k (hin.has_lt hk).2 (by
      have : k ≠ Q := fun e => hoff (e ▸ hk)
      omega)).mono hl tq.size (Nat.le_refl _), hoff, hq⟩
theorem nb_new {w W : World} {u0 u1 : Value} {B : Nat} {h : Hp} {s m : Int} (hB : Below w.heap.size w W) (ha : BoxL W w.heap.size [u0, u1]) (hr : BoxL W (w.heap.size + 1) [.slice none 0 0, .slice none 0 0, .int .i64 0, .int .i64 0])
    (hin : h.In B W.heap.size W) (hl : w.heap.size + 2 ≤ B) (hq : w.heap.size + 2 ≤ W.heap.size) :
    Nb w u0 u1 W.heap.size h s m (W.alloc (.cells #[.slice h.a h.vs.length h.ca, .slice h.b h.zs.length h.cb, .int .i64 s, .int .i64 m] 56)) := by
  have hb := (Below.refl W.heap.size W).alloc (Nat.le_refl _) (.cells #[.slice h.a h.vs.length h.ca, .slice h.b h.zs.length h.cb, .int .i64 s, .int .i64 m] 56)
  exact ⟨hB.trans (hb.mono hB.size), ha.below hb, hr.below hb, BoxL.new W [.slice h.a h.vs.length h.ca, .slice h.b h.zs.length h.cb, .int .i64 s, .int .i64 m] 56, Hp.In.mono (HeapIn.below hin hb) hl hb.size (Nat.le_refl _), fun hk => absurd (hin.has_lt hk).2 (Nat.lt_irrefl _), hq⟩
theorem Nb.set {w W : World} {u0 u1 : Value} {Q : Nat} {h : Hp} {s m : Int} (k : Nb w u0 u1 Q h s m W) (z : Int) : Nb w u0 u1 Q h s z (W.setCell ⟨Q, 3, none⟩ (.int .i64 z)) := by
  have tq := turn_set W Q 3 (.int .i64 z)
  have hq := k.lo
  exact ⟨tq.below k.below (by omega) k.below.size, k.arg.turn tq (.inl (by omega)), k.res.turn tq (.inl (by omega)), k.box.set 3 _,
    (k.rows.same tq.size fun j hj => tq.block j (k.rows.has_lt hj).2 (by
      have : j ≠ Q := fun e => k.off (e ▸ hj)
      omega)).mono (Nat.le_refl _) tq.size (Nat.le_refl _), k.off, k.lo⟩
theorem Nb.draws {w W : World} {u0 u1 : Value} {Q : Nat} {h : Hp} {s m : Int} (k : Nb w u0 u1 Q h s m W) (n : Nat) : Nb w u0 u1 Q h s m (W.drewN n) := by
  have hb := below_draws (Below.refl W.heap.size W) n
  exact ⟨k.below.trans (hb.mono k.below.size), k.arg.below hb, k.res.below hb, k.box.below hb, (HeapIn.below k.rows hb).mono (Nat.le_refl _) hb.size (Nat.le_refl _), k.off, k.lo⟩
set_option maxRecDepth 100000 in
set_option maxHeartbeats 3200000 in
theorem specGroupNode (x : St) (ga : Option Addr) (gc : Nat) (g : List Int) (w : World) (h : Small x.body) (hl100 : ∀ y ∈ x.ns, y.h.vs.length ≤ 100 ∧ y.h.zs.length ≤ 100) (hnil : ∀ y ∈ x.ns, y.Nil) (hat : x.At w) (hg0 : 0 < g.length) (hgl : g.length ≤ 1048576) (hgi : ∀ i ∈ g, 0 ≤ i ∧ i < (x.ns.length : Int)) (hrow : Row w w.heap.size ga (intVals g)) :
    Calls Tryz.prog 133 #[x.v, .slice ga g.length gc] w (MadeNode (groupN x.body g).1.1 (groupN x.body g).1.2 (groupN x.body g).2.1 (groupN x.body g).2.2 w) := by
  have hget : ∀ j (hj : j < x.ns.length), x.body.1.getD j zeroB = x.ns[j].body := fun j hj => by simp [St.body, hj]
  obtain ⟨i0, hi0⟩ : ∃ i0 : Nat, g[0] = (i0 : Int) := ⟨(g[0]).toNat, by have := hgi _ (List.getElem_mem hg0); omega⟩
  have hi0l : i0 < x.ns.length := by have := hgi _ (List.getElem_mem hg0); omega
  have hhd : g.headD 0 = (i0 : Int) := by
    cases g with
    | nil => simp at hg0
    | cons z r => simpa using hi0
  have hGN := groupN_eq x.body g hg0
  rw [hhd, Int.toNat_natCast, hget i0 hi0l] at hGN
  rw [hGN]
  show Calls _ _ _ w (MadeNode x.ns[i0].h.vs x.ns[i0].h.zs x.ns[i0].s (manyK x.body g g.length x.ns[i0].m) w)
  clear hGN hhd
  obtain ⟨y, hy⟩ : ∃ y, x.ns[i0] = y := ⟨_, rfl⟩
  rw [hy]
  have HY := Lib.hid hy
  clear hy
  have HGET := Lib.hid hget
  have HAT := Lib.hid (fun (W : World) (hb : Below w.heap.size w W) => hat.below hb)
  have HROW := Lib.hid (fun (W : World) (hb : Below w.heap.size w W) => (hrow.below hb).grow hb.size)
  have HGI := Lib.hid hgi
  have HNIL := Lib.hid hnil
  have H100 := Lib.hid hl100
  have hnl := h.n1
  clear hat hrow hgi hget h hnil hl100
  generalize x.body = sb at *
  obtain ⟨a, ca, ns, b, cb, zs⟩ := x
  simp only [St.v] at *
  go_enter Tryz.func133, Tryz.ntmps133
  go_wp2_with fail
  obtain ⟨W0, hW0, hb0, bx0, br0⟩ := two_boxL w [.slice a ns.length ca, .slice b zs.length cb] [.slice none 0 0, .slice none 0 0, .int .i64 0, .int .i64 0] 27 56
  simp only [List.toArray] at hW0
  rw [hW0]
  clear hW0
  obtain ⟨bg, og, rfl, hbg, hcg⟩ := (HROW.out _ hb0) 0 _ (intVals_at g 0 hg0)
  rw [hi0] at hcg
  obtain ⟨bn, on, rfl, hbn, hitem, hat0⟩ := (HAT.out _ hb0).nodes.item i0 hi0l
  simp only [] at hitem hat0 hbn
  have hm0 : ns[i0] ∈ ns := List.getElem_mem hi0l
  have hy100 := H100.out _ hm0
  have hyn := HNIL.out _ hm0
  have hy : ns[i0] = y := HY.out
  rw [hy] at hitem hat0 hm0 hy100 hyn
  clear hy
  obtain ⟨d0, d1, d2, d3⟩ := hitem
  have hsz0 := br0.lt
  have HS := Lib.hid (fun (W : World) (hb : Below W0.heap.size W0 W) => show W.cell? ⟨w.heap.size, 0, none⟩ = some (.slice (some ⟨bn, on, none⟩) ns.length ca) ∧ W.cell? ⟨bg, og, none⟩ = some (.int .i64 (i0 : Int)) ∧ W.cell? ⟨bn, on + i0 * 4, none⟩ = some (.slice y.h.a y.h.vs.length y.h.ca) ∧ W.cell? ⟨bn, on + i0 * 4 + 1, none⟩ = some (.slice y.h.b y.h.zs.length y.h.cb) ∧ W.cell? ⟨bn, on + i0 * 4 + 2, none⟩ = some (.int .i64 y.s) ∧ W.cell? ⟨bn, on + i0 * 4 + 3, none⟩ = some (.int .i64 y.m) from
    ⟨(bx0.below hb).c 0 _ rfl, (hb.cell (p := ⟨bg, og, none⟩) (Nat.lt_of_lt_of_le hbg (Nat.le_refl _))).trans hcg, (hb.cell (p := ⟨bn, _, none⟩) hbn).trans d0, (hb.cell (p := ⟨bn, _, none⟩) hbn).trans d1, (hb.cell (p := ⟨bn, _, none⟩) hbn).trans d2, (hb.cell (p := ⟨bn, _, none⟩) hbn).trans d3⟩)
  have HCP := Lib.hid (fun (W : World) (hb : Below W0.heap.size W0 W) => specCopyNode y.h.a y.h.b y.h.ca y.h.cb y.h.vs y.h.zs y.s y.m W hyn.1 hyn.2 (hat0.below hb) hy100.1 hy100.2)
  clear d0 d1 d2 d3 hcg hat0
  have hd := Below.drew (Below.refl W0.heap.size W0)
  have hi0n : (i0 : Int) < (ns.length : Int) := Int.ofNat_lt.2 hi0l
  have hg0i : (0 : Int) < (g.length : Int) := by omega
  refine wp_mergeU 5 10 (fun us W => ∃ Q pa pca pb pcb, us.headD undef = .pointer (some ⟨Q, 0, none⟩) ∧ Nb w (.slice (some ⟨bn, on, none⟩) ns.length ca) (.slice b zs.length cb) Q ⟨pa, pca, pb, pcb, y.h.vs, y.h.zs⟩ y.s y.m W) ?_ ?_
  · have S1 := HS.out _ hd
    refine wp_region_keep (S := fun W => W.cell? ⟨w.heap.size, 0, none⟩ = some (.slice (some ⟨bn, on, none⟩) ns.length ca) ∧ W.cell? ⟨bg, og, none⟩ = some (.int .i64 (i0 : Int)) ∧ W.cell? ⟨bn, on + i0 * 4, none⟩ = some (.slice y.h.a y.h.vs.length y.h.ca) ∧ W.cell? ⟨bn, on + i0 * 4 + 1, none⟩ = some (.slice y.h.b y.h.zs.length y.h.cb) ∧ W.cell? ⟨bn, on + i0 * 4 + 2, none⟩ = some (.int .i64 y.s) ∧ W.cell? ⟨bn, on + i0 * 4 + 3, none⟩ = some (.int .i64 y.m)) (B := fun i => decide (i ≠ 9)) (by kernel_rfl) ?_
    refine anyKeep.take (i := 0) (v := ?_) rfl (by kernel_rfl) (by kernel_rfl) (by kernel_rfl) (by kernel_rfl) (fun _ _ _ h => h) rfl ?_ S1 ?_
    rotate_left
    · rintro w' ⟨h1, h2, h3, h4, h5, h6⟩
      go_simp
      try with_reducible rfl
    try simp only [Act.put, List.setIfInBounds_toArray]
    refine anyKeep.take (i := 1) (v := ?_) rfl (by kernel_rfl) (by kernel_rfl) (by kernel_rfl) (by kernel_rfl) (fun _ _ _ h => h) rfl ?_ S1 ?_
    rotate_left
    · rintro w' ⟨h1, h2, h3, h4, h5, h6⟩
      go_simp
      try with_reducible rfl
    try simp only [Act.put, List.setIfInBounds_toArray]
    refine anyKeep.take (i := 2) (v := ?_) rfl (by kernel_rfl) (by kernel_rfl) (by kernel_rfl) (by kernel_rfl) (fun _ _ _ h => h) rfl ?_ S1 ?_
    rotate_left
    · rintro w' ⟨h1, h2, h3, h4, h5, h6⟩
      go_simp
      try with_reducible rfl
    try simp only [Act.put, List.setIfInBounds_toArray]
    refine anyKeep.take (i := 3) (v := ?_) rfl (by kernel_rfl) (by kernel_rfl) (by kernel_rfl) (by kernel_rfl) (fun _ _ _ h => h) rfl ?_ S1 ?_
    rotate_left
    · rintro w' ⟨h1, h2, h3, h4, h5, h6⟩
      go_simp
      try with_reducible rfl
    try simp only [Act.put, List.setIfInBounds_toArray]
    refine anyKeep.take (i := 4) (v := ?_) rfl (by kernel_rfl) (by kernel_rfl) (by kernel_rfl) (by kernel_rfl) (fun _ _ _ h => h) rfl ?_ S1 ?_
    rotate_left
    · rintro w' ⟨h1, h2, h3, h4, h5, h6⟩
      go_simp
      try with_reducible rfl
    try simp only [Act.put, List.setIfInBounds_toArray]
    refine anyKeep.take (i := 5) (v := ?_) rfl (by kernel_rfl) (by kernel_rfl) (by kernel_rfl) (by kernel_rfl) (fun _ _ _ h => h) rfl ?_ S1 ?_
    rotate_left
    · rintro w' ⟨h1, h2, h3, h4, h5, h6⟩
      go_simp
      try with_reducible rfl
    try simp only [Act.put, List.setIfInBounds_toArray]
    refine anyKeep.take (i := 6) (v := ?_) rfl (by kernel_rfl) (by kernel_rfl) (by kernel_rfl) (by kernel_rfl) (fun _ _ _ h => h) rfl ?_ S1 ?_
    rotate_left
    · rintro w' ⟨h1, h2, h3, h4, h5, h6⟩
      go_simp
      try with_reducible rfl
    try simp only [Act.put, List.setIfInBounds_toArray]
    refine anyKeep.two (k1 := 7) (k2 := 8) (by kernel_rfl) rfl rfl (fun K hK => ?_) (fun K hK => ?_)
    · go_simp
      go_at_call 88
      (with_reducible refine (HCP.out _ hd).mono ?_)
      rintro e w5 ⟨pa, pca, pb, pcb, rfl, hin5, hb5⟩
      have hB5 := hd.trans (hb5.mono hd.size)
      clear S1
      refine hK _ _ (fun _ => HS.out _ hB5) ?_
      clear hK K
      try simp only [Act.put, List.setIfInBounds_toArray, List.set_cons_zero, List.set_cons_succ]
      refine anyKeep.one (k := 8) (by kernel_rfl) rfl (fun K hK => ?_)
      go_simp
      have ha := (Below.refl w5.heap.size w5).alloc (Nat.le_refl _) (.cells #[.slice none 0 0, .slice none 0 0, .int .i64 0, .int .i64 0] 56)
      have hB6 := hB5.trans (ha.mono hB5.size)
      refine hK _ _ (fun _ => HS.out _ hB6) ?_
      clear hK K
      try simp only [Act.put, List.setIfInBounds_toArray, List.set_cons_zero, List.set_cons_succ]
      have hz5 : W0.heap.size ≤ w5.heap.size := hB5.size
      have hbq := hb0.trans (hB5.mono hb0.size)
      refine anyKeep.one (k := 9) (by kernel_rfl) rfl (fun K hK => ?_)
      go_simp
      refine hK _ _ (fun e => by simp at e) ?_
      clear hK K
      try simp only [Act.put, List.setIfInBounds_toArray, List.set_cons_zero, List.set_cons_succ]
      refine anyKeep.done (by kernel_rfl) ?_
      exact ⟨[_, _, _, _, _, _, _, _, _, _], rfl, rfl, _, pa, pca, pb, pcb, rfl, nb_new (h := ⟨pa, pca, pb, pcb, y.h.vs, y.h.zs⟩) hbq (bx0.below hB5) (br0.below hB5) hin5 (by simp; omega) (by omega)⟩
    · go_simp
      have ha := (Below.refl W0.heap.size W0).alloc (Nat.le_refl _) (.cells #[.slice none 0 0, .slice none 0 0, .int .i64 0, .int .i64 0] 56)
      have hB1 := ha.drew
      have bq1 := (BoxL.new W0 [.slice none 0 0, .slice none 0 0, .int .i64 0, .int .i64 0] 56).below (Below.drew (Below.refl _ _))
      have hzV : (W0.alloc (.cells #[.slice none 0 0, .slice none 0 0, .int .i64 0, .int .i64 0] 56)).drew.heap.size = W0.heap.size + 1 := by simp
      obtain ⟨V, hV⟩ : ∃ V, (W0.alloc (.cells #[.slice none 0 0, .slice none 0 0, .int .i64 0, .int .i64 0] 56)).drew = V := ⟨_, rfl⟩
      simp only [List.toArray] at bq1
      rw [hV] at hB1 hzV bq1
      clear S1
      have HV := Lib.hid hV
      have HZV := Lib.hid hzV
      clear hV hzV
      refine hK _ _ (fun _ => by rw [HV.out]; exact HS.out _ hB1) ?_
      clear hK K
      try simp only [Act.put, List.setIfInBounds_toArray, List.set_cons_zero, List.set_cons_succ]
      rw [HV.out]
      refine anyKeep.one (k := 7) (by kernel_rfl) rfl (fun K hK => ?_)
      go_simp
      go_at_call 88
      (with_reducible refine (HCP.out _ hB1).mono ?_)
      rintro e w5 ⟨pa, pca, pb, pcb, rfl, hin5, hb5⟩
      have hB5 := hB1.trans (hb5.mono hB1.size)
      refine hK _ _ (fun _ => HS.out _ hB5) ?_
      clear hK K
      try simp only [Act.put, List.setIfInBounds_toArray, List.set_cons_zero, List.set_cons_succ]
      have bq := bq1.below hb5
      have q0 := bq.c 0 _ rfl
      have q1 := bq.c 1 _ rfl
      have q2 := bq.c 2 _ rfl
      have q3 := bq.c 3 _ rfl
      have qf := bq.f
      have hz5 : W0.heap.size + 1 ≤ w5.heap.size := by have h1 := hb5.size; have h2 := HZV.out; omega
      have hbq := hb0.trans (hB5.mono hb0.size)
      refine anyKeep.one (k := 9) (by kernel_rfl) rfl (fun K hK => ?_)
      go_simp
      refine hK _ _ (fun e => by simp at e) ?_
      clear hK K
      try simp only [Act.put, List.setIfInBounds_toArray, List.set_cons_zero, List.set_cons_succ]
      refine anyKeep.done (by kernel_rfl) ?_
      exact ⟨[_, _, _, _, _, _, _, _, _, _], rfl, rfl, _, pa, pca, pb, pcb, rfl, nb_start (h := ⟨pa, pca, pb, pcb, y.h.vs, y.h.zs⟩) hbq (bx0.below hB5) (br0.below hB5) bq (B := V.heap.size) hin5 (by have := HZV.out; omega) (fun hk => by have h1 := (Hp.In.has_lt (x := ⟨pa, pca, pb, pcb, y.h.vs, y.h.zs⟩) hin5 hk).1; have h2 := HZV.out; omega) (by omega)⟩
  rintro us W1 hus ⟨Q, pa, pca, pb, pcb, HU, N1⟩
  obtain ⟨u5, u6, u7, u8, u9, u10, u11, u12, u13, u14, rfl⟩ := lens10 hus
  clear hus
  simp only [setL, List.take_succ_cons, List.take_zero, List.drop_succ_cons, List.drop_zero, List.cons_append, List.nil_append, List.length_cons, List.length_nil, Nat.reduceAdd]
  obtain rfl : u5 = .pointer (some ⟨Q, 0, none⟩) := HU
  clear HS HCP
  go_wp2
  go_loopw [6] (fun i wr => ∃ k : Nat, k ≤ g.length ∧ i = .int .i64 k ∧ Nb w (.slice (some ⟨bn, on, none⟩) ns.length ca) (.slice b zs.length cb) Q ⟨pa, pca, pb, pcb, y.h.vs, y.h.zs⟩ y.s (manyK sb g k y.m) wr) (fun i _ => g.length - (intOf i).toNat)
  case atStart => exact ⟨0, Nat.zero_le _, rfl, by rw [manyK_zero]; exact N1⟩
  case round =>
    clear N1
    obtain ⟨k, hk, rfl, N⟩ := hrel
    have b0 := N.box.c 0 _ rfl
    have b1 := N.box.c 1 _ rfl
    have b2 := N.box.c 2 _ rfl
    have b3 := N.box.c 3 _ rfl
    have bf := N.box.f
    have r0 := N.res.c 0 _ rfl
    have r1 := N.res.c 1 _ rfl
    have r2 := N.res.c 2 _ rfl
    have r3 := N.res.c 3 _ rfl
    have rf := N.res.f
    have hQl := N.box.lt
    have hQ2 := N.lo
    by_cases hlt : k < g.length
    · by_cases h1 : 1 < g.length
      · have hset := Lib.hid (manyK_set (s := sb) (m := y.m) hlt (.inl h1))
        have h1i : (1 : Int) < (g.length : Int) := by omega
        have h1d : decide ((1 : Int) < (g.length : Int)) = true := decide_eq_true h1i
        have HN := Lib.hid (fun n => N.draws n)
        clear N r0 r1 r2 r3 rf
        go_wp2
        go_quiet (fail)
        go_wp2
        go_roundw
        case rel => exact ⟨k + 1, by omega, by go_num, by rw [hset.out]; exact (HN.out _).set 1⟩
        case measure => simp [intOf]; omega
      · obtain ⟨i1, hi1⟩ : ∃ i1 : Nat, g[k] = (i1 : Int) := ⟨(g[k]).toNat, by have := HGI.out _ (List.getElem_mem hlt); omega⟩
        have hi1l : i1 < ns.length := by have := HGI.out _ (List.getElem_mem hlt); omega
        have hgm := HGET.out i1 hi1l
        have hset0 : ((sb.1.getD (g[k]).toNat zeroB).2.2 != 0) = true → manyK sb g (k + 1) y.m = 1 := fun e => manyK_set hlt (.inr e)
        have hsame0 : ((sb.1.getD (g[k]).toNat zeroB).2.2 != 0) = false → manyK sb g (k + 1) y.m = manyK sb g k y.m := fun e => manyK_same hlt h1 e
        rw [hi1, Int.toNat_natCast, hgm] at hset0 hsame0
        have hcg := (HROW.out _ N.below) k _ (intVals_at g k hlt)
        obtain ⟨bg', og', hbe, hbg', hcg'⟩ := hcg
        rw [hi1] at hcg'
        obtain ⟨rfl, rfl⟩ : bg' = bg ∧ og' = og := by
          have := Option.some.inj hbe
          exact ⟨(congrArg Addr.block this).symm, (congrArg Addr.off this).symm⟩
        obtain ⟨bn', on', hne, hbn', hitem', _⟩ := (HAT.out _ N.below).nodes.item i1 hi1l
        simp only [] at hne hitem'
        obtain ⟨rfl, rfl⟩ : bn' = bn ∧ on' = on := by
          have := Option.some.inj hne
          exact ⟨(congrArg Addr.block this).symm, (congrArg Addr.off this).symm⟩
        have d3 := hitem'.2.2.2
        have hz0 : ((ns[i1].body).2.2 != 0) = (ns[i1].m != 0) := rfl
        rw [hz0] at hset0 hsame0
        clear hz0 hitem' hbe hne hgm hi1
        generalize ns[i1] = z at *
        generalize z.m = zm at *
        have n0 := N.arg.c 0 _ rfl
        have hi1n : (i1 : Int) < (ns.length : Int) := by omega
        have hkg : (k : Int) < (g.length : Int) := by omega
        have h1i : ¬ (1 : Int) < (g.length : Int) := by omega
        have h1d : decide ((1 : Int) < (g.length : Int)) = false := decide_eq_false h1i
        have HN := Lib.hid (fun n => N.draws n)
        have HSET := Lib.hid hset0
        have HSAME := Lib.hid hsame0
        clear N r0 r1 r2 r3 rf hset0 hsame0
        by_cases hzm : zm = 0
        · have hq0 : (zm != 0) = false := by simp [hzm]
          have HE := Lib.hid (HSAME.out hq0)
          clear HSET HSAME
          go_wp2
          go_quiet (fail)
          go_wp2
          go_roundw
          case rel => exact ⟨k + 1, by omega, by go_num, by rw [HE.out]; exact HN.out _⟩
          case measure => simp [intOf]; omega
        · have hq0 : (zm != 0) = true := bne_iff_ne.2 hzm
          have HE := Lib.hid (HSET.out hq0)
          clear HSET HSAME
          go_wp2
          go_quiet (fail)
          go_wp2
          go_roundw
          case rel => exact ⟨k + 1, by omega, by go_num, by rw [HE.out]; exact (HN.out _).set 1⟩
          case measure => simp [intOf]; omega
    · have hkg : k = g.length := by omega
      subst hkg
      go_wp2
      have hlo := N.lo
      have tq : Turn (w.heap.size + 1) (w.heap.size + 2) wr ((((wr.setCell ⟨w.heap.size + 1, 0, none⟩ (.slice pa y.h.vs.length pca)).setCell ⟨w.heap.size + 1, 1, none⟩ (.slice pb y.h.zs.length pcb)).setCell ⟨w.heap.size + 1, 2, none⟩ (.int .i64 y.s)).setCell ⟨w.heap.size + 1, 3, none⟩ (.int .i64 (manyK sb g g.length y.m))) := (((turn_set _ _ _ _).trans (turn_set _ _ _ _)).trans (turn_set _ _ _ _)).trans (turn_set _ _ _ _)
      exact bodyPost_ret (v := ndC pa y.h.vs.length pca pb y.h.zs.length pcb y.s (manyK sb g g.length y.m)) (by simp [results, Tryz.results133, go_sem, r0, r1, r2, r3]) rfl ⟨pa, pca, pb, pcb, rfl, ((HeapIn.turn N.rows tq (.inr (Nat.le_refl _))).mono (lo' := w.heap.size) (Nat.le_add_right _ _) tq.size (Nat.le_refl _)), tq.below N.below (by omega) N.below.size⟩
end Go.Proofs.YtglcailcdcpadaaGreatDoor
