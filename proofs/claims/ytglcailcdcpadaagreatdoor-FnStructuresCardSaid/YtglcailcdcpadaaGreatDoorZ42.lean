/-
  The model's abstraction of a structure.
-/
import Derived.Test.YtglcailcdcpadaaGreatDoorZ38
import Derived.Test.YtglcailcdcpadaaGreatDoorZ33
import Derived.Test.YtglcailcdcpadaaGreatDoorZ40
namespace Go.Proofs.YtglcailcdcpadaaGreatDoor
open Go Go.RowKit Go.Sort Go.ChangeAt Go.ChangeShapes Go.WideShapes

def nextsG (s : SBody) (gs : List (List Int)) (k : Nat) : List Int := (gs.take k).flatMap fun a => gs.map fun b => joinTo s a b
theorem nextsG_next (s : SBody) (gs : List (List Int)) (k : Nat) (h : k < gs.length) : nextsG s gs (k + 1) = nextsG s gs k ++ gs.map (fun b => joinTo s gs[k] b) := by
  unfold nextsG
  rw [take_next gs k h, List.flatMap_append, List.flatMap_singleton]
theorem nextsG_length (s : SBody) (gs : List (List Int)) : ∀ k, k ≤ gs.length → (nextsG s gs k).length = k * gs.length := by
  intro k
  induction k with
  | zero => intro _; simp [nextsG]
  | succ k ih =>
    intro hk
    rw [nextsG_next s gs k hk, List.length_append, ih (by omega), List.length_map, Nat.add_mul, Nat.one_mul]
set_option maxRecDepth 100000 in
set_option maxHeartbeats 3200000 in
theorem specBlur (x : St) (w : World) (h : x.Fit) (hat : x.At w) : Calls Tryz.prog 106 #[x.v] w (MadeSt (blurB x.body) w) := by
  obtain ⟨i0, hi, hz0, hz1, hz2⟩ := info_parts numInfo
  obtain ⟨j0, hjn, hy0, hy1, hy2⟩ := info_parts nodeInfoS
  have HV15 := Lib.hid (fun (W : World) (hb : Below w.heap.size w W) => specVars15 x W h.small (hat.below hb))
  have HIS := Lib.hid (fun (W : World) (v : Int) (hb : Below w.heap.size w W) => specIsStructure v x W h.small (hat.below hb))
  have HCP := Lib.hid (fun (W : World) (hb : Below w.heap.size w W) => specCopySt x W h (hat.below hb))
  have HGR := Lib.hid (fun (W : World) (hb : Below w.heap.size w W) => specGroups x W h.small (hat.below hb) h.nb)
  have HND := Lib.hid (fun (W : World) (hb : Below w.heap.size w W) (ga : Option Addr) (gc : Nat) (g : List Int) => specGroupNode x ga gc g W h.small h.each h.nil (hat.below hb))
  have HNX := Lib.hid (fun (W : World) (hb : Below w.heap.size w W) (pa pb : Option Addr) (ca cb : Nat) (a b : List Int) => specGroupNext x pa pb ca cb a b W h.small (hat.below hb))
  have hok := groupsTo_ok x.body x.ns.length
  have hbl : x.body.1.length = x.ns.length := by simp [St.body]
  have hb0 : x.ns.length = 0 → blurB x.body = ([], []) := fun e => by rw [blurB, if_pos (by rw [hbl, e])]
  have hb1 : ¬ x.ns.length = 0 → stB (varsB x.body) x.body = false → blurB x.body = x.body := fun e e2 => by rw [blurB, if_neg (by rw [hbl]; exact e), if_neg (by rw [e2]; simp)]
  have hb2 : ¬ x.ns.length = 0 → stB (varsB x.body) x.body = true → blurB x.body = ((((groupsTo x.body x.ns.length).map Prod.snd).map (groupN x.body)), nextsG x.body ((groupsTo x.body x.ns.length).map Prod.snd) ((groupsTo x.body x.ns.length).map Prod.snd).length) := fun e e2 => by
    rw [blurB, if_neg (by rw [hbl]; exact e), if_pos e2, groupsB, hbl, nextsG, List.take_length]
  have hnb := h.nb
  clear hat h hbl
  generalize varsB x.body = vv at *
  generalize groupsTo x.body x.ns.length = L at *
  obtain ⟨sb, hsb⟩ : ∃ sb, x.body = sb := ⟨_, rfl⟩
  rw [hsb] at HIS HCP HND HNX hb0 hb1 hb2 ⊢
  clear hsb
  obtain ⟨rb, hrb⟩ : ∃ rb, blurB sb = rb := ⟨_, rfl⟩
  rw [hrb] at hb0 hb1 hb2 ⊢
  clear hrb
  have HB0 := Lib.hid hb0
  have HB1 := Lib.hid hb1
  have HB2 := Lib.hid hb2
  have HOK := Lib.hid hok
  clear hb0 hb1 hb2 hok
  obtain ⟨a, ca, ns, b, cb, zs⟩ := x
  simp only [St.v] at *
  go_enter Tryz.func106, Tryz.ntmps106
  go_upto_region 1 with (fail)
  obtain ⟨W0, hW0, hb0, bx0, br0⟩ := two_boxL w [.slice a ns.length ca, .slice b zs.length cb] [.slice none 0 0, .slice none 0 0] 27 27
  simp only [List.toArray] at hW0
  rw [hW0]
  clear hW0
  have n0 := bx0.c 0 _ rfl
  have n1 := bx0.c 1 _ rfl
  have r0 := br0.c 0 _ rfl
  have r1 := br0.c 1 _ rfl
  have rf := br0.f
  have hrl := br0.lt
  by_cases hn0 : ns.length = 0
  · have HE := Lib.hid (HB0.out hn0)
    have hnd : ((ns.length : Int) == 0) = true := beq_iff_eq.2 (by omega)
    have HN0 := Lib.hid hn0
    clear hn0
    go_wp2
    have tq : Turn (w.heap.size + 1) (w.heap.size + 2) W0 ((W0.setCell ⟨w.heap.size + 1, 0, none⟩ (.slice none 0 0)).setCell ⟨w.heap.size + 1, 1, none⟩ (.slice none 0 0)) := (turn_set _ _ _ _).trans (turn_set _ _ _ _)
    exact bodyPost_ret (v := heV none 0 0 none 0 0) (by simp [results, Tryz.results106, go_sem, r0, r1]) rfl ⟨⟨none, 0, [], none, 0, []⟩, HE.out.symm, rfl, St.In.empty (Nat.le_refl _), tq.below hb0 (by omega) hb0.size⟩
  have hnd : ((ns.length : Int) == 0) = false := beq_eq_false_iff_ne.2 (by omega)
  have hne : ¬ (ns.length : Int) = 0 := by omega
  go_wp2
  have hd := Below.drew (Below.refl W0.heap.size W0)
  have HS := Lib.hid (fun (W : World) (hb : Below W0.heap.size W0 W) => show W.cell? ⟨w.heap.size, 0, none⟩ = some (.slice a ns.length ca) ∧ W.cell? ⟨w.heap.size, 1, none⟩ = some (.slice b zs.length cb) from ⟨(bx0.below hb).c 0 _ rfl, (bx0.below hb).c 1 _ rfl⟩)
  have S1 := HS.out _ hd
  refine wp_region_keep (S := fun W => W.cell? ⟨w.heap.size, 0, none⟩ = some (.slice a ns.length ca) ∧ W.cell? ⟨w.heap.size, 1, none⟩ = some (.slice b zs.length cb)) (B := fun _ => true) (by kernel_rfl) ?_
  refine anyKeep.take (i := 0) (v := ?_) rfl (by kernel_rfl) (by kernel_rfl) (by kernel_rfl) (by kernel_rfl) (fun _ _ _ h => h) rfl ?_ S1 ?_
  rotate_left
  · rintro w' ⟨h1, h2⟩
    go_simp
    try with_reducible rfl
  try simp only [Act.put, List.setIfInBounds_toArray]
  refine anyKeep.take (i := 2) (v := ?_) rfl (by kernel_rfl) (by kernel_rfl) (by kernel_rfl) (by kernel_rfl) (fun _ _ _ h => h) rfl ?_ S1 ?_
  rotate_left
  · rintro w' ⟨h1, h2⟩
    go_simp
    try with_reducible rfl
  try simp only [Act.put, List.setIfInBounds_toArray]
  refine anyKeep.one (k := 1) (by kernel_rfl) rfl (fun K hK => ?_)
  go_simp
  go_at_call 131
  (with_reducible refine (HV15.out _ (hb0.trans (hd.mono hb0.size))).mono ?_)
  rintro e w1 ⟨rfl, hb1⟩
  have hB1 := hd.trans (hb1.mono hd.size)
  clear S1
  refine hK _ _ (fun _ => HS.out _ hB1) ?_
  clear hK K
  try simp only [Act.put, List.setIfInBounds_toArray, List.set_cons_zero, List.set_cons_succ]
  refine anyKeep.one (k := 3) (by kernel_rfl) rfl (fun K hK => ?_)
  go_simp
  go_at_call 13
  (with_reducible refine (HIS.out _ (vv : Int) (hb0.trans (hB1.mono hb0.size))).mono ?_)
  rintro e w2 ⟨rfl, hb2⟩
  have hB2 := hB1.trans (hb2.mono hB1.size)
  refine hK _ _ (fun _ => HS.out _ hB2) ?_
  clear hK K
  try simp only [Act.put, List.setIfInBounds_toArray, List.set_cons_zero, List.set_cons_succ]
  refine anyKeep.one (k := 4) (by kernel_rfl) rfl (fun K hK => ?_)
  go_simp
  refine hK _ _ (fun _ => HS.out _ hB2) ?_
  clear hK K
  try simp only [Act.put, List.setIfInBounds_toArray, List.set_cons_zero, List.set_cons_succ]
  refine anyKeep.done (by kernel_rfl) ?_
  clear n0 n1 r0 r1 rf
  have bx2 := bx0.below hB2
  have br2 := br0.below hB2
  have hBw := hb0.trans (hB2.mono hb0.size)
  have hsz2 : w.heap.size + 1 < w2.heap.size := br2.lt
  clear hB1 hb1 hb2 HS bx0 br0 hB2
  have n0 := bx2.c 0 _ rfl
  have n1 := bx2.c 1 _ rfl
  cases hst : stB (vv : Int) sb with
  | false =>
    have HE := Lib.hid (HB1.out hn0 hst)
    clear hst
    go_wp2_with fail
    refine (HCP.out _ hBw).mono ?_
    rintro e w3 ⟨x3, hx3, rfl, hin3, hb3⟩
    have br3 := br2.below hb3
    have r0 := br3.c 0 _ rfl
    have r1 := br3.c 1 _ rfl
    have rf := br3.f
    have hB3 := hBw.trans (hb3.mono hBw.size)
    have HX3 := Lib.hid hx3
    have HIN := Lib.hid hin3
    clear hx3 hin3
    go_wp2
    have tq : Turn (w.heap.size + 1) (w.heap.size + 2) w3 ((w3.setCell ⟨w.heap.size + 1, 0, none⟩ (.slice x3.a x3.ns.length x3.ca)).setCell ⟨w.heap.size + 1, 1, none⟩ (.slice x3.b x3.zs.length x3.cb)) := (turn_set _ _ _ _).trans (turn_set _ _ _ _)
    exact bodyPost_ret (v := x3.v) (by simp [results, Tryz.results106, go_sem, r0, r1]) rfl ⟨x3, HX3.out.trans HE.out.symm, rfl, (HIN.out.turn tq (.inr (by omega))).mono (by omega) tq.size (Nat.le_refl _), tq.below hB3 (by omega) hB3.size⟩
  | true =>
  have HE := Lib.hid (HB2.out hn0 hst)
  clear hst HB0 HB1 HB2 HCP HIS HV15
  go_wp2_with fail
  refine (HGR.out _ hBw).mono ?_
  rintro e w3 ⟨gn, cn, go, co, ls, rfl, hG, hb3⟩
  have bx3 := bx2.below hb3
  have br3 := br2.below hb3
  have hB3 := hBw.trans (hb3.mono hBw.size)
  have hsz3 : w.heap.size + 1 < w3.heap.size := br3.lt
  clear bx2 br2 hBw n0 n1 HGR hb3
  go_wp2
  obtain ⟨W4, hW4, hb4, bq4⟩ := one_boxL w3 [.slice none 0 0, .slice none 0 0] 27
  simp only [List.toArray] at hW4
  rw [hW4]
  clear hW4
  have G4 : Sg w3.heap.size ⟨none, 0, [], none, 0, []⟩ W4 := ⟨bq4, St.In.empty (Nat.le_refl _)⟩
  clear bq4
  have hll : ls.length = L.length := hG.len
  have hgs : L.map Prod.snd = ls.map Lp.xs := hG.xs.symm
  have hL10 : L.length ≤ 10 := Nat.le_trans HOK.out.len hnb
  have HGG := Lib.hid (fun (W : World) (hb : Below w3.heap.size w3 W) => hG.below hb)
  have HCELL := Lib.hid (fun (W : World) (hb : Below w3.heap.size w3 W) (i : Nat) (hi : i < ls.length) => own_cell_lp (hG.below hb) hi)
  have HROW := Lib.hid (fun (W : World) (hb : Below w3.heap.size w3 W) (i : Nat) (hi : i < ls.length) => own_row ((hG.below hb).each _ (List.getElem_mem hi)))
  have HGP := Lib.hid (fun (i : Nat) (hi : i < ls.length) => show 0 < ls[i].xs.length ∧ ls[i].xs.length ≤ 1048576 ∧ ∀ z ∈ ls[i].xs, 0 ≤ z ∧ z < (ns.length : Int) from by
    have hm : ls[i].xs ∈ L.map Prod.snd := by rw [hgs]; exact List.mem_map.2 ⟨_, List.getElem_mem hi, rfl⟩
    obtain ⟨g, hg, he⟩ := List.mem_map.1 hm
    obtain ⟨h1, h2, h3⟩ := HOK.out.each g hg
    rw [← he]
    exact ⟨h1, by omega, h3⟩)
  have HBX := Lib.hid (fun (W : World) (hb : Below w3.heap.size w3 W) => And.intro (And.intro (bx3.below hb) (br3.below hb)) (hB3.trans (hb.mono hB3.size)))
  rw [hgs] at HE
  rw [← hll] at hL10
  have HLL := Lib.hid hll
  clear hG hgs bx3 br3 hB3 HGG hll
  have hQ3 : w.heap.size + 2 ≤ w3.heap.size := by omega
  have HB4 := Lib.hid hb4
  clear hb4
  have hls : (L.length : Int) = (ls.length : Int) := by rw [HLL.out]
  rw [show L.length = ls.length from HLL.out.symm]
  clear hls
  generalize hgsx : ls.map Lp.xs = gs at *
  have hgl : gs.length = ls.length := by rw [← hgsx]; simp
  have HGX := Lib.hid (fun (i : Nat) (hi : i < ls.length) (hi' : i < gs.length) => show gs[i] = ls[i].xs from by
    have : gs[i]? = (ls.map Lp.xs)[i]? := by rw [hgsx]
    simp [hi, hi'] at this
    exact this)
  have HGLEN := Lib.hid hgl
  clear hgsx hgl
  go_loopw [5] (fun i wr => ∃ (k : Nat) (x3 : St), k ≤ ls.length ∧ i = .int .i64 k ∧ x3.ns.map Nd.body = (gs.map (groupN sb)).take k ∧ x3.zs = nextsG sb gs k ∧ Below w3.heap.size w3 wr ∧ Sg w3.heap.size x3 wr) (fun i _ => ls.length - (intOf i).toNat)
  case atStart => exact ⟨0, _, Nat.zero_le _, rfl, by simp, by simp [nextsG], HB4.out, G4⟩
  case round =>
    clear G4
    obtain ⟨k, x3, hk, rfl, hbd, hxz, hB, G⟩ := hrel
    have hxl : x3.ns.length = k := by have h1 := congrArg List.length hbd; have h2 := HGLEN.out; simp at h1; omega
    have hzl : x3.zs.length ≤ 110 := by
      rw [hxz, nextsG_length sb gs k (by rw [HGLEN.out]; exact hk), HGLEN.out]
      exact Nat.le_trans (Nat.mul_le_mul (Nat.le_trans hk hL10) hL10) (by decide)
    have hx10 : x3.ns.length ≤ 10 := by omega
    have HBD := Lib.hid hbd
    have HXZ := Lib.hid hxz
    clear hbd hxz hxl
    by_cases hlt : k < ls.length
    · have hkg : k < gs.length := by have := HGLEN.out; omega
      have hgx := HGX.out k hlt hkg
      have hgp := HGP.out k hlt
      have HNM := Lib.hid (show (gs.map (groupN sb)).take (k + 1) = (gs.map (groupN sb)).take k ++ [groupN sb gs[k]] from by
        rw [take_next _ k (by simpa using hkg)]
        simp)
      have HNG := Lib.hid (nextsG_next sb gs k hkg)
      have HCK := Lib.hid (fun (W : World) (hb : Below w3.heap.size w3 W) => HCELL.out W hb k hlt)
      have HRK := Lib.hid (fun (W : World) (hb : Below w3.heap.size w3 W) => HROW.out W hb k hlt)
      rw [hgx] at HNM HNG
      clear hgx
      generalize ls[k] = y at *
      have HS := Lib.hid (fun (W : World) (hb : Below w3.heap.size w3 W) (h2 : W.cell? ⟨w3.heap.size, 0, none⟩ = some (.slice x3.a x3.ns.length x3.ca)) => show W.cell? ⟨w.heap.size, 0, none⟩ = some (.slice a ns.length ca) ∧ W.cell? ⟨w.heap.size, 1, none⟩ = some (.slice b zs.length cb) ∧ W.cell? ⟨w3.heap.size, 0, none⟩ = some (.slice x3.a x3.ns.length x3.ca) ∧ W.cell? ⟨go, k, none⟩ = some (.slice (some ⟨y.g, 0, none⟩) y.xs.length y.c) from
        ⟨(HBX.out W hb).1.1.c 0 _ rfl, (HBX.out W hb).1.1.c 1 _ rfl, h2, HCK.out W hb⟩)
      have hd := Below.drew (Below.refl wr.heap.size wr)
      have hBd := hB.trans (hd.mono hB.size)
      have HG5 := Lib.hid (G.call hd)
      have hMle := G.in_
      have hQl := G.box.lt
      have S1 := HS.out _ hBd (HG5.out.box.c 0 _ rfl)
      have hki : (k : Int) < (ls.length : Int) := by omega
      clear G
      go_wp2
      refine wp_region_keep (S := fun W => W.cell? ⟨w.heap.size, 0, none⟩ = some (.slice a ns.length ca) ∧ W.cell? ⟨w.heap.size, 1, none⟩ = some (.slice b zs.length cb) ∧ W.cell? ⟨w3.heap.size, 0, none⟩ = some (.slice x3.a x3.ns.length x3.ca) ∧ W.cell? ⟨go, k, none⟩ = some (.slice (some ⟨y.g, 0, none⟩) y.xs.length y.c)) (B := fun i => decide (i ≠ 11)) (by kernel_rfl) ?_
      refine anyKeep.take (i := 0) (v := ?_) rfl (by kernel_rfl) (by kernel_rfl) (by kernel_rfl) (by kernel_rfl) (fun _ _ _ h => h) rfl ?_ S1 ?_
      rotate_left
      · rintro w' ⟨h1, h2, h3, h4⟩
        go_simp
        try with_reducible rfl
      try simp only [Act.put, List.setIfInBounds_toArray]
      refine anyKeep.take (i := 1) (v := ?_) rfl (by kernel_rfl) (by kernel_rfl) (by kernel_rfl) (by kernel_rfl) (fun _ _ _ h => h) rfl ?_ S1 ?_
      rotate_left
      · rintro w' ⟨h1, h2, h3, h4⟩
        go_simp
        try with_reducible rfl
      try simp only [Act.put, List.setIfInBounds_toArray]
      refine anyKeep.take (i := 2) (v := ?_) rfl (by kernel_rfl) (by kernel_rfl) (by kernel_rfl) (by kernel_rfl) (fun _ _ _ h => h) rfl ?_ S1 ?_
      rotate_left
      · rintro w' ⟨h1, h2, h3, h4⟩
        go_simp
        try with_reducible rfl
      try simp only [Act.put, List.setIfInBounds_toArray]
      refine anyKeep.take (i := 3) (v := ?_) rfl (by kernel_rfl) (by kernel_rfl) (by kernel_rfl) (by kernel_rfl) (fun _ _ _ h => h) rfl ?_ S1 ?_
      rotate_left
      · rintro w' ⟨h1, h2, h3, h4⟩
        go_simp
        try with_reducible rfl
      try simp only [Act.put, List.setIfInBounds_toArray]
      refine anyKeep.take (i := 4) (v := ?_) rfl (by kernel_rfl) (by kernel_rfl) (by kernel_rfl) (by kernel_rfl) (fun _ _ _ h => h) rfl ?_ S1 ?_
      rotate_left
      · rintro w' ⟨h1, h2, h3, h4⟩
        go_simp
        try with_reducible rfl
      try simp only [Act.put, List.setIfInBounds_toArray]
      refine anyKeep.take (i := 5) (v := ?_) rfl (by kernel_rfl) (by kernel_rfl) (by kernel_rfl) (by kernel_rfl) (fun _ _ _ h => h) rfl ?_ S1 ?_
      rotate_left
      · rintro w' ⟨h1, h2, h3, h4⟩
        go_simp
        try with_reducible rfl
      try simp only [Act.put, List.setIfInBounds_toArray]
      refine anyKeep.take (i := 6) (v := ?_) rfl (by kernel_rfl) (by kernel_rfl) (by kernel_rfl) (by kernel_rfl) (fun _ _ _ h => h) rfl ?_ S1 ?_
      rotate_left
      · rintro w' ⟨h1, h2, h3, h4⟩
        go_simp
        try with_reducible rfl
      try simp only [Act.put, List.setIfInBounds_toArray]
      refine anyKeep.one (k := 7) (by kernel_rfl) rfl (fun K hK => ?_)
      go_simp
      go_at_call 133
      (with_reducible refine (HND.out _ (HBX.out _ hBd).2 (some ⟨y.g, 0, none⟩) y.c y.xs hgp.1 hgp.2.1 hgp.2.2 (HRK.out _ hBd)).mono ?_)
      generalize hyN : groupN sb y.xs = yN
      have HYN := Lib.hid hyN
      clear hyN
      obtain ⟨⟨nvs, nzs⟩, nsh, nmm⟩ := yN
      rintro e w6 ⟨pa, pca, pb, pcb, rfl, hin6, hb6⟩
      simp only [] at hin6
      have hB6 := hBd.trans (hb6.mono hBd.size)
      have G6 := HG5.out.call hb6
      clear S1
      refine hK _ _ (fun _ => HS.out _ hB6 (G6.box.c 0 _ rfl)) ?_
      clear hK K
      try simp only [Act.put, List.setIfInBounds_toArray, List.set_cons_zero, List.set_cons_succ]
      have hal := (Below.refl w6.heap.size w6).alloc (Nat.le_refl _) (.cells #[.slice pa nvs.length pca, .slice pb nzs.length pcb, .int .i64 nsh, .int .i64 nmm] 56)
      have hB7 := hB6.trans (hal.mono hB6.size)
      have G7 := G6.call hal
      have hin7 := (HeapIn.below hin6 hal).mono (Nat.le_refl _) hal.size (Nat.le_refl _)
      have hx7 := (hMle.below hd).below (hb6.trans (hal.mono hb6.size))
      have hz6 := hb6.size
      simp only [World.size_drew] at hz6
      refine anyKeep.one (k := 8) (by kernel_rfl) rfl (fun K hK => ?_)
      go_simp
      refine hK _ _ (fun _ => HS.out _ hB7 (G7.box.c 0 _ rfl)) ?_
      clear hK K
      try simp only [Act.put, List.setIfInBounds_toArray, List.set_cons_zero, List.set_cons_succ]
      refine anyKeep.one (k := 9) (by kernel_rfl) rfl (fun K hK => ?_)
      refine step_append_lies _ rfl (.tmp 29) (.tmp 36) 24 rfl (w3.heap.size + 1) 56 j0 (.agg #[.slice none 0 0, .slice none 0 0, .int .i64 0, .int .i64 0]) 4 64 Tryz.underlying24 hjn hy0 hy1 hy2 rfl (by decide) (.slice x3.a x3.ns.length x3.ca) x3.ns.length (ndVals x3.ns) ?_ G7.in_.nodes.2.1 ⟨w6.heap.size, 0, none⟩ 1 1 [.slice pa nvs.length pca, .slice pb nzs.length pcb, .int .i64 nsh, .int .i64 nmm] ?_ rfl ?_ ?_ (by omega) ?_ ?_ ?_ _ rfl ?_
      · simp [Act.eval]
      · simp [Act.eval]
      · exact lit4_news _ _ _ _ _ _
      · exact lit4_one _ _ _ _ _ _ _ _
      · unfold maxLen; omega
      · omega
      · simp; omega
      intro g9 cap9 w9 hown9 hg9 hat9 hlt9
      have b9 := G7.boxg (v := x3.va) hg9 (fun k hk => (G7.in_.nodes.2.1.lt k hk).1)
      have d9 := b9.c 0 _ rfl
      have pf9 := b9.f
      have hB9 : Below w3.heap.size w3 w9 := hB7.grown hg9 hB7.size (fun j hj => by have := (G7.in_.nodes.2.1.lt j hj).1; omega)
      refine hK _ _ (fun _ => HS.out _ hB9 d9) ?_
      clear hK K
      try simp only [Act.put, List.setIfInBounds_toArray, List.set_cons_zero, List.set_cons_succ]
      refine anyKeep.one (k := 10) (by kernel_rfl) rfl (fun K hK => ?_)
      go_simp
      refine hK _ _ (fun _ => HS.out _ hB9 d9) ?_
      clear hK K
      try simp only [Act.put, List.setIfInBounds_toArray, List.set_cons_zero, List.set_cons_succ]
      refine anyKeep.one (k := 11) (by kernel_rfl) rfl (fun K hK => ?_)
      go_simp
      refine hK _ _ (fun e => by simp at e) ?_
      clear hK K
      try simp only [Act.put, List.setIfInBounds_toArray, List.set_cons_zero, List.set_cons_succ]
      refine anyKeep.done (by kernel_rfl) ?_
      have GA := G7.push (y := ⟨⟨pa, pca, pb, pcb, nvs, nzs⟩, nsh, nmm⟩) hx7 hin7 (Nat.le_refl _) (by simp; omega) hown9 hg9 (hat9.elim (fun e => .inl e.symm) (fun e => .inr (congrArg some e)))
      have hBA : Below w3.heap.size w3 (w9.setCell ⟨w3.heap.size, 0, none⟩ (.slice (some ⟨g9, 0, none⟩) (x3.ns.length + 1) cap9)) := hB9.setCell (Nat.le_refl _) _
      have HBA := Lib.hid (show (x3.ns ++ [(⟨⟨pa, pca, pb, pcb, nvs, nzs⟩, nsh, nmm⟩ : Nd)]).map Nd.body = (gs.map (groupN sb)).take (k + 1) from by
        rw [List.map_append, HBD.out, HNM.out, HYN.out]
        rfl)
      clear G6 hal G7 hin7 hx7 hz6 hown9 hg9 hat9 hlt9 b9 d9 pf9 HS HG5 hMle hin6 hb6 hB9 hB7 hB6 hBd hd
      generalize w9.setCell ⟨w3.heap.size, 0, none⟩ (.slice (some ⟨g9, 0, none⟩) (x3.ns.length + 1) cap9) = WB at *
      go_wp2
      go_loopw [6] (fun i wq => ∃ (j : Nat) (x4 : St), j ≤ ls.length ∧ i = .int .i64 j ∧ x4.ns.map Nd.body = (gs.map (groupN sb)).take (k + 1) ∧ x4.zs = nextsG sb gs k ++ (gs.map fun b => joinTo sb y.xs b).take j ∧ Below w3.heap.size w3 wq ∧ Sg w3.heap.size x4 wq) (fun i _ => ls.length - (intOf i).toNat)
      case atStart => exact ⟨0, _, Nat.zero_le _, rfl, HBA.out, by rw [List.take_zero, List.append_nil]; exact HXZ.out, hBA, GA⟩
      case round =>
        clear GA hBA HBA hx10 hzl HBD HXZ
        obtain ⟨j, x4, hj, rfl, hbd4, hxz4, hB4, G4⟩ := hrel
        have hz4 : x4.zs.length ≤ 120 := by
          have h1 := nextsG_length sb gs k (by rw [HGLEN.out]; exact hk)
          rw [hxz4, List.length_append, h1, HGLEN.out, List.length_take]
          have := Nat.mul_le_mul (Nat.le_trans hk hL10) hL10
          omega
        have HBD4 := Lib.hid hbd4
        have HXZ4 := Lib.hid hxz4
        clear hbd4 hxz4
        by_cases hlt2 : j < ls.length
        · have hjg : j < gs.length := by have := HGLEN.out; omega
          have hgx2 := HGX.out j hlt2 hjg
          have hgp2 := HGP.out j hlt2
          have HNT := Lib.hid (show (gs.map fun b => joinTo sb y.xs b).take (j + 1) = (gs.map fun b => joinTo sb y.xs b).take j ++ [joinTo sb y.xs gs[j]] from by
            rw [take_next _ j (by simpa using hjg)]
            simp)
          have HCJ := Lib.hid (fun (W : World) (hb : Below w3.heap.size w3 W) => HCELL.out W hb j hlt2)
          have HRJ := Lib.hid (fun (W : World) (hb : Below w3.heap.size w3 W) => HROW.out W hb j hlt2)
          rw [hgx2] at HNT
          clear hgx2
          generalize ls[j] = v at *
          have HS := Lib.hid (fun (W : World) (hb : Below w3.heap.size w3 W) (h2 : W.cell? ⟨w3.heap.size, 1, none⟩ = some (.slice x4.b x4.zs.length x4.cb)) => show W.cell? ⟨w.heap.size, 0, none⟩ = some (.slice a ns.length ca) ∧ W.cell? ⟨w.heap.size, 1, none⟩ = some (.slice b zs.length cb) ∧ W.cell? ⟨w3.heap.size, 1, none⟩ = some (.slice x4.b x4.zs.length x4.cb) ∧ W.cell? ⟨go, k, none⟩ = some (.slice (some ⟨y.g, 0, none⟩) y.xs.length y.c) ∧ W.cell? ⟨go, j, none⟩ = some (.slice (some ⟨v.g, 0, none⟩) v.xs.length v.c) from
            ⟨(HBX.out W hb).1.1.c 0 _ rfl, (HBX.out W hb).1.1.c 1 _ rfl, h2, HCK.out W hb, HCJ.out W hb⟩)
          have hd := Below.drew (Below.refl wr.heap.size wr)
          have hBd := hB4.trans (hd.mono hB4.size)
          have HG5 := Lib.hid (G4.call hd)
          have hQl := G4.box.lt
          have S1 := HS.out _ hBd (HG5.out.box.c 1 _ rfl)
          have hji : (j : Int) < (ls.length : Int) := by omega
          clear G4
          obtain ⟨jv, hjv⟩ : ∃ jv, joinTo sb y.xs v.xs = jv := ⟨_, rfl⟩
          rw [hjv] at HNT
          have HJV := Lib.hid hjv
          clear hjv
          go_wp2
          refine wp_region_keep (S := fun W => W.cell? ⟨w.heap.size, 0, none⟩ = some (.slice a ns.length ca) ∧ W.cell? ⟨w.heap.size, 1, none⟩ = some (.slice b zs.length cb) ∧ W.cell? ⟨w3.heap.size, 1, none⟩ = some (.slice x4.b x4.zs.length x4.cb) ∧ W.cell? ⟨go, k, none⟩ = some (.slice (some ⟨y.g, 0, none⟩) y.xs.length y.c) ∧ W.cell? ⟨go, j, none⟩ = some (.slice (some ⟨v.g, 0, none⟩) v.xs.length v.c)) (B := fun i => decide (i ≠ 15)) (by kernel_rfl) ?_
          refine anyKeep.take (i := 0) (v := ?_) rfl (by kernel_rfl) (by kernel_rfl) (by kernel_rfl) (by kernel_rfl) (fun _ _ _ h => h) rfl ?_ S1 ?_
          rotate_left
          · rintro w' ⟨h1, h2, h3, h4, h5⟩
            go_simp
            try with_reducible rfl
          try simp only [Act.put, List.setIfInBounds_toArray]
          refine anyKeep.take (i := 1) (v := ?_) rfl (by kernel_rfl) (by kernel_rfl) (by kernel_rfl) (by kernel_rfl) (fun _ _ _ h => h) rfl ?_ S1 ?_
          rotate_left
          · rintro w' ⟨h1, h2, h3, h4, h5⟩
            go_simp
            try with_reducible rfl
          try simp only [Act.put, List.setIfInBounds_toArray]
          refine anyKeep.take (i := 2) (v := ?_) rfl (by kernel_rfl) (by kernel_rfl) (by kernel_rfl) (by kernel_rfl) (fun _ _ _ h => h) rfl ?_ S1 ?_
          rotate_left
          · rintro w' ⟨h1, h2, h3, h4, h5⟩
            go_simp
            try with_reducible rfl
          try simp only [Act.put, List.setIfInBounds_toArray]
          refine anyKeep.take (i := 3) (v := ?_) rfl (by kernel_rfl) (by kernel_rfl) (by kernel_rfl) (by kernel_rfl) (fun _ _ _ h => h) rfl ?_ S1 ?_
          rotate_left
          · rintro w' ⟨h1, h2, h3, h4, h5⟩
            go_simp
            try with_reducible rfl
          try simp only [Act.put, List.setIfInBounds_toArray]
          refine anyKeep.take (i := 4) (v := ?_) rfl (by kernel_rfl) (by kernel_rfl) (by kernel_rfl) (by kernel_rfl) (fun _ _ _ h => h) rfl ?_ S1 ?_
          rotate_left
          · rintro w' ⟨h1, h2, h3, h4, h5⟩
            go_simp
            try with_reducible rfl
          try simp only [Act.put, List.setIfInBounds_toArray]
          refine anyKeep.take (i := 5) (v := ?_) rfl (by kernel_rfl) (by kernel_rfl) (by kernel_rfl) (by kernel_rfl) (fun _ _ _ h => h) rfl ?_ S1 ?_
          rotate_left
          · rintro w' ⟨h1, h2, h3, h4, h5⟩
            go_simp
            try with_reducible rfl
          try simp only [Act.put, List.setIfInBounds_toArray]
          refine anyKeep.take (i := 6) (v := ?_) rfl (by kernel_rfl) (by kernel_rfl) (by kernel_rfl) (by kernel_rfl) (fun _ _ _ h => h) rfl ?_ S1 ?_
          rotate_left
          · rintro w' ⟨h1, h2, h3, h4, h5⟩
            go_simp
            try with_reducible rfl
          try simp only [Act.put, List.setIfInBounds_toArray]
          refine anyKeep.take (i := 7) (v := ?_) rfl (by kernel_rfl) (by kernel_rfl) (by kernel_rfl) (by kernel_rfl) (fun _ _ _ h => h) rfl ?_ S1 ?_
          rotate_left
          · rintro w' ⟨h1, h2, h3, h4, h5⟩
            go_simp
            try with_reducible rfl
          try simp only [Act.put, List.setIfInBounds_toArray]
          refine anyKeep.take (i := 8) (v := ?_) rfl (by kernel_rfl) (by kernel_rfl) (by kernel_rfl) (by kernel_rfl) (fun _ _ _ h => h) rfl ?_ S1 ?_
          rotate_left
          · rintro w' ⟨h1, h2, h3, h4, h5⟩
            go_simp
            try with_reducible rfl
          try simp only [Act.put, List.setIfInBounds_toArray]
          refine anyKeep.take (i := 9) (v := ?_) rfl (by kernel_rfl) (by kernel_rfl) (by kernel_rfl) (by kernel_rfl) (fun _ _ _ h => h) rfl ?_ S1 ?_
          rotate_left
          · rintro w' ⟨h1, h2, h3, h4, h5⟩
            go_simp
            try with_reducible rfl
          try simp only [Act.put, List.setIfInBounds_toArray]
          refine anyKeep.take (i := 10) (v := ?_) rfl (by kernel_rfl) (by kernel_rfl) (by kernel_rfl) (by kernel_rfl) (fun _ _ _ h => h) rfl ?_ S1 ?_
          rotate_left
          · rintro w' ⟨h1, h2, h3, h4, h5⟩
            go_simp
            try with_reducible rfl
          try simp only [Act.put, List.setIfInBounds_toArray]
          refine anyKeep.one (k := 11) (by kernel_rfl) rfl (fun K hK => ?_)
          go_simp
          go_at_call 134
          (with_reducible refine (HNX.out _ (HBX.out _ hBd).2 (some ⟨y.g, 0, none⟩) (some ⟨v.g, 0, none⟩) y.c v.c y.xs v.xs hgp.1 hgp2.1 hgp.2.1 hgp2.2.1 (HRK.out _ hBd) (HRJ.out _ hBd)).mono ?_)
          rw [HJV.out]
          rintro e w6 ⟨rfl, hb6⟩
          have hB6 := hBd.trans (hb6.mono hBd.size)
          have G6 := HG5.out.call hb6
          clear S1
          refine hK _ _ (fun _ => HS.out _ hB6 (G6.box.c 1 _ rfl)) ?_
          clear hK K
          try simp only [Act.put, List.setIfInBounds_toArray, List.set_cons_zero, List.set_cons_succ]
          have z5 := G6.box.lt
          have hal := (Below.refl w6.heap.size w6).alloc (Nat.le_refl _) (.cells #[.int .i64 jv] 3)
          have hB7 := hB6.trans (hal.mono hB6.size)
          have G7 := G6.call hal
          refine anyKeep.one (k := 12) (by kernel_rfl) rfl (fun K hK => ?_)
          go_simp
          refine hK _ _ (fun _ => HS.out _ hB7 (G7.box.c 1 _ rfl)) ?_
          clear hK K
          try simp only [Act.put, List.setIfInBounds_toArray, List.set_cons_zero, List.set_cons_succ]
          refine anyKeep.one (k := 13) (by kernel_rfl) rfl (fun K hK => ?_)
          refine step_append_lies _ rfl (.tmp 46) (.tmp 57) 25 rfl (w3.heap.size + 1) 3 i0 (.int .i64 0) 1 8 Tryz.underlying25 hi hz0 hz1 hz2 rfl (by decide) (.slice x4.b x4.zs.length x4.cb) x4.zs.length (intVals x4.zs) ?_ G7.in_.next.2.1 ⟨w6.heap.size, 0, none⟩ 1 1 [.int .i64 jv] ?_ rfl ?_ ?_ (by omega) ?_ ?_ ?_ _ rfl ?_
          · simp [Act.eval]
          · simp [Act.eval]
          · exact oneCell_at (w := w6) _
          · exact oneCell_int _
          · unfold maxLen; omega
          · omega
          · simp; omega
          intro g9 cap9 w9 hown9 hg9 hat9 hlt9
          have b9 := G7.boxg (v := x4.vb) hg9 (fun k hk => (G7.in_.next.2.1.lt k hk).1)
          have d9 := b9.c 1 _ rfl
          have pf9 := b9.f
          have hB9 : Below w3.heap.size w3 w9 := hB7.grown hg9 hB7.size (fun j hj => by have := (G7.in_.next.2.1.lt j hj).1; omega)
          refine hK _ _ (fun _ => HS.out _ hB9 d9) ?_
          clear hK K
          try simp only [Act.put, List.setIfInBounds_toArray, List.set_cons_zero, List.set_cons_succ]
          refine anyKeep.one (k := 14) (by kernel_rfl) rfl (fun K hK => ?_)
          go_simp
          refine hK _ _ (fun _ => HS.out _ hB9 d9) ?_
          clear hK K
          try simp only [Act.put, List.setIfInBounds_toArray, List.set_cons_zero, List.set_cons_succ]
          refine anyKeep.one (k := 15) (by kernel_rfl) rfl (fun K hK => ?_)
          go_simp
          refine hK _ _ (fun e => by simp at e) ?_
          clear hK K
          try simp only [Act.put, List.setIfInBounds_toArray, List.set_cons_zero, List.set_cons_succ]
          refine anyKeep.done (by kernel_rfl) ?_
          have GB := G7.pair hown9 hg9 (hat9.elim (fun e => .inl e.symm) (fun e => .inr (congrArg some e)))
          have hBB : Below w3.heap.size w3 (w9.setCell ⟨w3.heap.size, 1, none⟩ (.slice (some ⟨g9, 0, none⟩) (x4.zs.length + 1) cap9)) := hB9.setCell (Nat.le_refl _) _
          have HZB := Lib.hid (show x4.zs ++ [jv] = nextsG sb gs k ++ (gs.map fun b => joinTo sb y.xs b).take (j + 1) from by
            rw [HXZ4.out, HNT.out, List.append_assoc])
          clear G6 hal G7 hown9 hg9 hat9 hlt9 b9 d9 pf9 HS HG5 hb6 hB9 hB7 hB6 hBd hd
          generalize w9.setCell ⟨w3.heap.size, 1, none⟩ (.slice (some ⟨g9, 0, none⟩) (x4.zs.length + 1) cap9) = WC at *
          go_wp2
          go_roundw
          case rel => exact ⟨j + 1, { x4 with b := some ⟨g9, 0, none⟩, cb := cap9, zs := x4.zs ++ [jv] }, by omega, by go_num, HBD4.out, HZB.out, hBB, GB⟩
          case measure => simp [intOf]; omega
        · have hjl : j = ls.length := by omega
          have HZE := Lib.hid (show x4.zs = nextsG sb gs (k + 1) from by
            rw [HXZ4.out, HNG.out, hjl, List.take_of_length_le (by rw [List.length_map, HGLEN.out]; exact Nat.le_refl _)])
          clear hjl
          go_wp2
          go_roundw
          case rel => exact ⟨k + 1, x4, by omega, by go_num, HBD4.out, HZE.out, hB4, G4⟩
          case measure => simp [intOf]; omega
    · have hkl : k = ls.length := by omega
      have HRE := Lib.hid (show x3.body = rb from by
        have hg := HGLEN.out
        simp only [St.body, HBD.out, HXZ.out, HE.out, hkl, hg]
        rw [List.take_of_length_le (by rw [List.length_map, hg]; exact Nat.le_refl _)])
      clear hkl
      obtain ⟨⟨hbx, hbr⟩, hBW⟩ := HBX.out _ hB
      have o0 := G.box.c 0 _ rfl
      have o1 := G.box.c 1 _ rfl
      have r0 := hbr.c 0 _ rfl
      have r1 := hbr.c 1 _ rfl
      have rf := hbr.f
      have hQr := G.box.lt
      go_wp2
      refine bodyPost_ret (v := x3.v) (by simp [results, Tryz.results106, go_sem, r0, r1]) rfl ?_
      have tq : Turn (w.heap.size + 1) (w.heap.size + 2) wr ((wr.setCell ⟨w.heap.size + 1, 0, none⟩ (.slice x3.a x3.ns.length x3.ca)).setCell ⟨w.heap.size + 1, 1, none⟩ (.slice x3.b x3.zs.length x3.cb)) := (turn_set _ _ _ _).trans (turn_set _ _ _ _)
      exact ⟨x3, HRE.out, rfl, (G.in_.turn tq (.inr (by omega))).mono (by omega) tq.size (Nat.le_refl _), tq.below hBW (by omega) hBW.size⟩
end Go.Proofs.YtglcailcdcpadaaGreatDoor
