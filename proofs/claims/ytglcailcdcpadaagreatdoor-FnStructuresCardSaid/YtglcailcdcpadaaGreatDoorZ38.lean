/-
  The model's copy of a structure.
-/
import Derived.Deep.AppendLies
import Derived.Deep.Cut
import Derived.Test.YtglcailcdcpadaaGreatDoorZ34
import Derived.Test.YtglcailcdcpadaaGreatDoorZ30
import Derived.Test.YtglcailcdcpadaaGreatDoorZ05
import Derived.Test.YtglcailcdcpadaaGreatDoorZ01
namespace Go.Proofs.YtglcailcdcpadaaGreatDoor
open Go Go.RowKit Go.Sort Go.ChangeAt Go.ChangeShapes Go.WideShapes

/-- A structure of a size that the draws make. -/
structure St.Fit (x : St) : Prop where
  small : Small x.body
  nb : x.ns.length ≤ 10
  zb : x.zs.length ≤ 110
  each : ∀ y ∈ x.ns, y.h.vs.length ≤ 100 ∧ y.h.zs.length ≤ 100
  nil : ∀ y ∈ x.ns, y.Nil
  nilb : x.b = none → x.cb = 0
/-- The structure so far, in a box anywhere. -/
structure Sq (lo Q : Nat) (x : St) (W : World) : Prop where
  box : BoxL W Q [x.va, x.vb]
  in_ : x.In lo W.heap.size W
  off : ¬ x.has Q
section
variable {lo Q : Nat} {x : St} {W W' : World}
theorem Sq.call (h : Sq lo Q x W) (hb : Below W.heap.size W W') : Sq lo Q x W' := ⟨h.box.below hb, (h.in_.below hb).mono (Nat.le_refl _) hb.size (Nat.le_refl _), h.off⟩
theorem BoxL.grown {g : Nat} {xs : List Value} {r : Option Nat} (h : BoxL W g xs) (hg : W.grownBy W' r) (hne : r ≠ some g) : BoxL W' g xs :=
  ⟨fun i x hx => (World.cell?_of_block (hg.block g h.lt (Ne.symm hne))).trans (h.c i x hx), fun o => (World.frozen?_of_block (hg.block g h.lt (Ne.symm hne))).trans (h.f o), Nat.lt_of_lt_of_le h.lt hg.size⟩
theorem Sq.boxg (h : Sq lo Q x W) (hg : W.grownBy W' x.va.ownBlock) : BoxL W' Q [x.va, x.vb] := h.box.grown hg fun e => h.off (.inl e)
/-- One node more. -/
theorem Sq.push {y : Nd} {m M : Nat} (h : Sq lo Q x W) (hx : x.In lo M W) (hy : y.h.In m W.heap.size W) (hm : M ≤ m) (hlm : lo ≤ m) (hyQ : ¬ y.hs Q) {a' : Option Addr} {c' : Nat}
    (hown : W'.ownsRow lo 56 4 (.slice a' (x.ns.length + 1) c') (x.ns.length + 1) (ndVals x.ns ++ ndCells y)) (hg : W.grownBy W' x.va.ownBlock)
    (hat : (Value.slice a' (x.ns.length + 1) c').ownBlock = x.va.ownBlock ∨ (Value.slice a' (x.ns.length + 1) c').ownBlock = some W.heap.size) :
    Sq lo Q { x with a := a', ca := c', ns := x.ns ++ [y] } (W'.setCell ⟨Q, 0, none⟩ (.slice a' (x.ns.length + 1) c')) := by
  have hin := hx.push hy hm hlm (by rw [show ndVals (x.ns ++ [y]) = ndVals x.ns ++ ndCells y from fl_snoc x.ns y]; exact hown) hg hat
  have hb := (h.boxg hg).set 0 (.slice a' (x.ns.length + 1) c')
  have hQ := h.box.lt
  have ts := turn_set W' Q 0 (.slice a' (x.ns.length + 1) c')
  have hoff : ¬ St.has { x with a := a', ca := c', ns := x.ns ++ [y] } Q := by
    rintro (hk | hk | ⟨z, hz, hk⟩)
    · have hk : (Value.slice a' (x.ns ++ [y]).length c').ownBlock = some Q := hk
      rw [List.length_append] at hk
      rcases hat with e | e
      · exact h.off (.inl (e.symm.trans hk))
      · have := Option.some.inj (e.symm.trans hk)
        omega
    · exact h.off (.inr (.inl hk))
    · rcases List.mem_append.1 hz with hz | hz
      · exact h.off (.inr (.inr ⟨z, hz, hk⟩))
      · rw [List.mem_singleton.1 hz] at hk
        exact hyQ hk
  refine ⟨?_, (hin.same ts.size fun k hk => ts.block k (Nat.lt_of_lt_of_le (hin.has_lt hk).2 (Nat.le_refl _)) (by
    have : k ≠ Q := fun e => hoff (e ▸ hk)
    omega)).mono (Nat.le_refl _) ts.size (Nat.le_refl _), hoff⟩
  simp only [St.va, St.vb, List.length_append, List.length_cons, List.length_nil, Nat.zero_add]
  exact hb
end
theorem intVals_onesC (l : List Int) : ∀ u ∈ intVals l, u.oneCell' = true := by
  intro u hu
  obtain ⟨x, _, rfl⟩ := List.mem_map.1 hu
  rfl
/-- A row of nodes, so far copied. -/
theorem bodies_next {ns : List Nd} {k : Nat} (h : k < ns.length) : (ns.map Nd.body).take (k + 1) = (ns.map Nd.body).take k ++ [ns[k].body] := by
  rw [take_next _ k (by simpa using h)]
  simp
set_option maxRecDepth 100000 in
set_option maxHeartbeats 3200000 in
theorem specCopySt (x : St) (w : World) (h : x.Fit) (hat : x.At w) : Calls Tryz.prog 39 #[x.v] w (MadeSt x.body w) := by
  obtain ⟨i0, hi, hz0, hz1, hz2⟩ := info_parts numInfo
  obtain ⟨j0, hjn, hy0, hy1, hy2⟩ := info_parts nodeInfoS
  have HAT := Lib.hid (fun (W : World) (hb : Below w.heap.size w W) => hat.below hb)
  have H100 := Lib.hid h.each
  have HNIL := Lib.hid h.nil
  have hnb := h.nb
  have hzb := h.zb
  have hnilb := h.nilb
  clear hat h
  obtain ⟨a, ca, ns, b, cb, zs⟩ := x
  simp only [St.v] at *
  have hbz : b = none → zs.length = 0 ∧ cb = 0 := fun e => ⟨by subst e; have := row_nil (HAT.out w (Below.refl _ _)).next; simpa [intVals] using this, hnilb e⟩
  have HBZ := Lib.hid hbz
  clear hbz hnilb
  go_enter Tryz.func39, Tryz.ntmps39
  go_upto_region 1 with (fail)
  obtain ⟨W0, hW0, hb0, bx0, br0⟩ := two_boxL w [.slice a ns.length ca, .slice b zs.length cb] [.slice none 0 0, .slice none 0 0] 27 27
  simp only [List.toArray] at hW0
  rw [hW0]
  clear hW0
  have n0 := bx0.c 0 _ rfl
  have n1 := bx0.c 1 _ rfl
  have hsz0 := br0.lt
  have hE := emp_at (W := W0) (t := 3) rfl
  have ha1 := (Below.refl W0.heap.size W0).alloc (Nat.le_refl _) (.cells #[] 3)
  have HA1 := Lib.hid ha1
  clear ha1
  have n1' := (bx0.below HA1.out).c 1 _ rfl
  go_wp2_with (first
    | (at_builtin; refine wpList_append_rowR _ rfl (.tmp 5) (.tmp 7) 25 rfl (w.heap.size + 2) 3 i0 (.int .i64 0) 1 8 Tryz.underlying25 hi hz0 hz1 hz2 rfl (by decide) (.slice (some ⟨W0.heap.size, 0, none⟩) 0 0) 0 [] rfl (empty_own hE (by omega)) b zs.length cb (intVals zs) rfl HBZ.out (by rw [intVals_length, Nat.mul_one]) (row_news (HAT.out _ (hb0.trans (HA1.out.mono hb0.size))).next) (intVals_onesC zs) (by unfold maxLen; omega) (by omega) (by simp; omega) ?_; intro v4 w4 hown4 hg4 hat4; rw [Nat.zero_add] at *; rw [List.nil_append] at hown4; obtain ⟨b4, c4, rfl, _⟩ := own_shape hown4)
    | fail)
  have hB4 : Below w.heap.size w w4 := (hb0.trans (HA1.out.mono hb0.size)).grown hg4 (by simp; omega) (fun k hk => by have h1 : W0.heap.size = k := Option.some.inj hk; omega)
  have hz4 : W0.heap.size + 1 ≤ w4.heap.size := by have := hg4.size; simpa using this
  have bx4 := (bx0.below HA1.out).grown hg4 (fun e => by have h1 : W0.heap.size = w.heap.size := Option.some.inj e; omega)
  have br4 := (br0.below HA1.out).grown hg4 (fun e => by have h1 : W0.heap.size = w.heap.size + 1 := Option.some.inj e; omega)
  obtain ⟨W5, hW5, hb5, bq5⟩ := one_boxL w4 [.slice none 0 0, .slice b4 zs.length c4] 27
  simp only [List.toArray] at hW5
  rw [hW5]
  have S5 : Sw w (.slice a ns.length ca) (.slice b zs.length cb) W5 := ⟨hB4.trans (hb5.mono hB4.size), bx4.below hb5, br4.below hb5⟩
  have hz5 : w4.heap.size + 1 ≤ W5.heap.size := by rw [← hW5]; simp
  have hon := OwnIn.of (own_keeps hown4 hb5)
  have G5 : Sq (w.heap.size + 2) w4.heap.size ⟨none, 0, [], b4, c4, zs⟩ W5 := by
    have hE0 := St.In.empty (lo := w.heap.size + 2) (hi := W5.heap.size) (W := W5) (Nat.le_refl _)
    refine ⟨bq5, ⟨hE0.nodes, hon, hE0.each, hE0.rows, (fun k hk => by cases hk), (fun k hk => by cases hk), (fun k hk p hp => by simp at hp)⟩, ?_⟩
    rintro (hk | hk | ⟨z, hz, _⟩)
    · cases hk
    · have := (hown4.lt _ hk).2
      omega
    · simp at hz
  have hwQ : w.heap.size + 2 ≤ w4.heap.size := by omega
  clear hW5 bq5 hb5 bx4 br4 hB4 hg4 hown4 hat4 n0 n1 n1' bx0 br0 hE HA1 hon hz5
  generalize w4.heap.size = Q at *
  go_loopw [4] (fun i wr => ∃ (k : Nat) (x3 : St), k ≤ ns.length ∧ i = .int .i64 k ∧ x3.ns.map Nd.body = (ns.map Nd.body).take k ∧ x3.zs = zs ∧ Sw w (.slice a ns.length ca) (.slice b zs.length cb) wr ∧ Sq (w.heap.size + 2) Q x3 wr) (fun i _ => ns.length - (intOf i).toNat)
  case atStart => exact ⟨0, _, Nat.zero_le _, rfl, by simp, rfl, S5, G5⟩
  case round =>
    clear S5 G5
    obtain ⟨k, x3, hk, rfl, hbd, hxz, S, G⟩ := hrel
    have hxl : x3.ns.length = k := by have := congrArg List.length hbd; simp at this; omega
    have HBD := Lib.hid hbd
    have HXZ := Lib.hid hxz
    have n0 := S.arg.c 0 _ rfl
    have hx10 : x3.ns.length ≤ 10 := by omega
    have HXL := Lib.hid hxl
    clear hbd hxz hxl
    by_cases hlt : k < ns.length
    · obtain ⟨ba, oa, rfl, hbW, hitem, hx⟩ := (HAT.out _ S.below).nodes.item k hlt
      have hm := List.getElem_mem hlt
      have hy100 := H100.out _ hm
      have hyn : (ns[k].h.a = none → ns[k].h.ca = 0) ∧ (ns[k].h.b = none → ns[k].h.cb = 0) := HNIL.out _ hm
      have HYN := Lib.hid hyn
      clear hyn
      have HNXT := Lib.hid (bodies_next hlt)
      have HIT := Lib.hid (fun (W : World) (hb : Below w.heap.size w W) => show NdItem W ba oa k ns[k] from by
        obtain ⟨b1, o1, e, _, hi1, _⟩ := (HAT.out W hb).nodes.item k hlt
        have e := Option.some.inj e
        have h1 : ba = b1 := congrArg Addr.block e
        have h2 : oa = o1 := congrArg Addr.off e
        subst h1 h2
        exact hi1)
      generalize ns[k] = y at *
      have hd := Below.drew (Below.refl wr.heap.size wr)
      have HS := Lib.hid (fun (W : World) (h1 : Sw w (.slice (some ⟨ba, oa, none⟩) ns.length ca) (.slice b zs.length cb) W) (h2 : W.cell? ⟨Q, 0, none⟩ = some (.slice x3.a x3.ns.length x3.ca)) => show W.cell? ⟨w.heap.size, 0, none⟩ = some (.slice (some ⟨ba, oa, none⟩) ns.length ca) ∧ W.cell? ⟨Q, 0, none⟩ = some (.slice x3.a x3.ns.length x3.ca) ∧ W.cell? ⟨ba, oa + k * 4, none⟩ = some (.slice y.h.a y.h.vs.length y.h.ca) ∧ W.cell? ⟨ba, oa + k * 4 + 1, none⟩ = some (.slice y.h.b y.h.zs.length y.h.cb) ∧ W.cell? ⟨ba, oa + k * 4 + 2, none⟩ = some (.int .i64 y.s) ∧ W.cell? ⟨ba, oa + k * 4 + 3, none⟩ = some (.int .i64 y.m) from
        ⟨h1.arg.c 0 _ rfl, h2, (HIT.out _ h1.below).1, (HIT.out _ h1.below).2.1, (HIT.out _ h1.below).2.2.1, (HIT.out _ h1.below).2.2.2⟩)
      have HS5 := Lib.hid (S.call hd)
      have HG5 := Lib.hid (G.call hd)
      have hat5 : HeapAt wr.drew y.h.a y.h.b y.h.vs y.h.zs := hx.below hd
      have hQl := G.box.lt
      have hMle := G.in_
      clear S G hitem
      have S1 := HS.out _ HS5.out (HG5.out.box.c 0 _ rfl)
      go_wp2
      clear n0
      refine wp_region_keep (S := fun W => W.cell? ⟨w.heap.size, 0, none⟩ = some (.slice (some ⟨ba, oa, none⟩) ns.length ca) ∧ W.cell? ⟨Q, 0, none⟩ = some (.slice x3.a x3.ns.length x3.ca) ∧ W.cell? ⟨ba, oa + k * 4, none⟩ = some (.slice y.h.a y.h.vs.length y.h.ca) ∧ W.cell? ⟨ba, oa + k * 4 + 1, none⟩ = some (.slice y.h.b y.h.zs.length y.h.cb) ∧ W.cell? ⟨ba, oa + k * 4 + 2, none⟩ = some (.int .i64 y.s) ∧ W.cell? ⟨ba, oa + k * 4 + 3, none⟩ = some (.int .i64 y.m)) (B := fun i => decide (i ≠ 11)) (by kernel_rfl) ?_
      refine anyKeep.take (i := 0) (v := ?_) rfl (by kernel_rfl) (by kernel_rfl) (by kernel_rfl) (by kernel_rfl) (fun _ _ _ h => h) rfl ?_ S1 ?_
      rotate_left
      · rintro w' ⟨h1, h2, h3, h4, h5, h6⟩
        go_simp
        try with_reducible rfl
      try simp only [Act.put, List.setIfInBounds_toArray]
      refine anyKeep.take (i := 1) (v := ?_) rfl (by kernel_rfl) (by kernel_rfl) (by kernel_rfl) (by kernel_rfl) (fun _ _ _ h => h) rfl ?_ S1 ?_
      rotate_left
      · rintro w' ⟨h1, h2, h3, h4, h5, h6⟩
        go_simp
        try with_reducible rfl
      try simp only [Act.put, List.setIfInBounds_toArray]
      refine anyKeep.take (i := 2) (v := ?_) rfl (by kernel_rfl) (by kernel_rfl) (by kernel_rfl) (by kernel_rfl) (fun _ _ _ h => h) rfl ?_ S1 ?_
      rotate_left
      · rintro w' ⟨h1, h2, h3, h4, h5, h6⟩
        go_simp
        try with_reducible rfl
      try simp only [Act.put, List.setIfInBounds_toArray]
      refine anyKeep.take (i := 3) (v := ?_) rfl (by kernel_rfl) (by kernel_rfl) (by kernel_rfl) (by kernel_rfl) (fun _ _ _ h => h) rfl ?_ S1 ?_
      rotate_left
      · rintro w' ⟨h1, h2, h3, h4, h5, h6⟩
        go_simp
        try with_reducible rfl
      try simp only [Act.put, List.setIfInBounds_toArray]
      refine anyKeep.take (i := 4) (v := ?_) rfl (by kernel_rfl) (by kernel_rfl) (by kernel_rfl) (by kernel_rfl) (fun _ _ _ h => h) rfl ?_ S1 ?_
      rotate_left
      · rintro w' ⟨h1, h2, h3, h4, h5, h6⟩
        go_simp
        try with_reducible rfl
      try simp only [Act.put, List.setIfInBounds_toArray]
      refine anyKeep.take (i := 5) (v := ?_) rfl (by kernel_rfl) (by kernel_rfl) (by kernel_rfl) (by kernel_rfl) (fun _ _ _ h => h) rfl ?_ S1 ?_
      rotate_left
      · rintro w' ⟨h1, h2, h3, h4, h5, h6⟩
        go_simp
        try with_reducible rfl
      try simp only [Act.put, List.setIfInBounds_toArray]
      refine anyKeep.take (i := 6) (v := ?_) rfl (by kernel_rfl) (by kernel_rfl) (by kernel_rfl) (by kernel_rfl) (fun _ _ _ h => h) rfl ?_ S1 ?_
      rotate_left
      · rintro w' ⟨h1, h2, h3, h4, h5, h6⟩
        go_simp
        try with_reducible rfl
      try simp only [Act.put, List.setIfInBounds_toArray]
      refine anyKeep.one (k := 7) (by kernel_rfl) rfl (fun K hK => ?_)
      go_simp
      go_at_call 88
      (with_reducible refine (specCopyNode y.h.a y.h.b y.h.ca y.h.cb y.h.vs y.h.zs y.s y.m _ HYN.out.1 HYN.out.2 hat5 hy100.1 hy100.2).mono ?_)
      rintro e w6 ⟨pa, pca, pb, pcb, rfl, hin6, hb6⟩
      have S6 := HS5.out.call hb6
      have G6 := HG5.out.call hb6
      clear S1
      refine hK _ _ (fun _ => HS.out _ S6 (G6.box.c 0 _ rfl)) ?_
      clear hK K
      try simp only [Act.put, List.setIfInBounds_toArray, List.set_cons_zero, List.set_cons_succ]
      have hal := (Below.refl w6.heap.size w6).alloc (Nat.le_refl _) (.cells #[.slice pa y.h.vs.length pca, .slice pb y.h.zs.length pcb, .int .i64 y.s, .int .i64 y.m] 56)
      have S7 := S6.call hal
      have G7 := G6.call hal
      have hin7 := (HeapIn.below hin6 hal).mono (Nat.le_refl _) hal.size (Nat.le_refl _)
      have hx7 := (hMle.below hd).below (hb6.trans (hal.mono hb6.size))
      have hz6 := hb6.size
      simp only [World.size_drew] at hz6
      refine anyKeep.one (k := 8) (by kernel_rfl) rfl (fun K hK => ?_)
      go_simp
      refine hK _ _ (fun _ => HS.out _ S7 (G7.box.c 0 _ rfl)) ?_
      clear hK K
      try simp only [Act.put, List.setIfInBounds_toArray, List.set_cons_zero, List.set_cons_succ]
      refine anyKeep.one (k := 9) (by kernel_rfl) rfl (fun K hK => ?_)
      refine step_append_lies _ rfl (.tmp 18) (.tmp 25) 24 rfl (w.heap.size + 2) 56 j0 (.agg #[.slice none 0 0, .slice none 0 0, .int .i64 0, .int .i64 0]) 4 64 Tryz.underlying24 hjn hy0 hy1 hy2 rfl (by decide) (.slice x3.a x3.ns.length x3.ca) x3.ns.length (ndVals x3.ns) ?_ G7.in_.nodes.2.1 ⟨w6.heap.size, 0, none⟩ 1 1 [.slice pa y.h.vs.length pca, .slice pb y.h.zs.length pcb, .int .i64 y.s, .int .i64 y.m] ?_ rfl ?_ ?_ (by omega) ?_ ?_ ?_ _ rfl ?_
      · simp [Act.eval]
      · simp [Act.eval]
      · exact lit4_news _ _ _ _ _ _
      · exact lit4_one _ _ _ _ _ _ _ _
      · unfold maxLen; omega
      · omega
      · have := G7.in_.nodes.1; simp; omega
      intro g9 cap9 w9 hown9 hg9 hat9 hlt9
      have b9 := G7.boxg hg9
      have d9 := b9.c 0 _ rfl
      have pf9 := b9.f
      have T9 : Turn (w.heap.size + 2) (w9.heap.size) _ w9 := Turn.of_grown hg9 (fun j hj => ⟨(G7.in_.nodes.2.1.lt j hj).1, Nat.lt_of_lt_of_le (G7.in_.nodes.2.1.lt j hj).2 hg9.size⟩)
      have S9 := S7.turn T9 (Nat.le_refl _)
      refine hK _ _ (fun _ => HS.out _ S9 d9) ?_
      clear hK K
      try simp only [Act.put, List.setIfInBounds_toArray, List.set_cons_zero, List.set_cons_succ]
      refine anyKeep.one (k := 10) (by kernel_rfl) rfl (fun K hK => ?_)
      go_simp
      refine hK _ _ (fun _ => HS.out _ S9 d9) ?_
      clear hK K
      try simp only [Act.put, List.setIfInBounds_toArray, List.set_cons_zero, List.set_cons_succ]
      refine anyKeep.one (k := 11) (by kernel_rfl) rfl (fun K hK => ?_)
      go_simp
      refine hK _ _ (fun e => by simp at e) ?_
      clear hK K
      try simp only [Act.put, List.setIfInBounds_toArray, List.set_cons_zero, List.set_cons_succ]
      refine anyKeep.done (by kernel_rfl) ?_
      have GA := G7.push (y := ⟨⟨pa, pca, pb, pcb, y.h.vs, y.h.zs⟩, y.s, y.m⟩) hx7 hin7 (Nat.le_refl _) (by simp; omega) (fun hk => by have := (Hp.In.has_lt (x := ⟨pa, pca, pb, pcb, y.h.vs, y.h.zs⟩) hin7 hk).1; simp at this; omega) hown9 hg9 (hat9.elim (fun e => .inl e.symm) (fun e => .inr (congrArg some e)))
      have SA := S9.turn (turn_set w9 Q 0 (.slice (some ⟨g9, 0, none⟩) (x3.ns.length + 1) cap9)) hwQ
      have HBA := Lib.hid (show (x3.ns ++ [(⟨⟨pa, pca, pb, pcb, y.h.vs, y.h.zs⟩, y.s, y.m⟩ : Nd)]).map Nd.body = (ns.map Nd.body).take (k + 1) from by
        rw [List.map_append, HBD.out, HNXT.out]
        rfl)
      clear S6 G6 hal S7 G7 hin7 hx7 hz6 hown9 hg9 hat9 hlt9 b9 d9 pf9 T9 S9 HS HS5 HG5 hat5 hMle hin6 hb6
      generalize w9.setCell ⟨Q, 0, none⟩ (.slice (some ⟨g9, 0, none⟩) (x3.ns.length + 1) cap9) = WB at *
      go_wp2
      go_roundw
      case rel => exact ⟨k + 1, { x3 with a := some ⟨g9, 0, none⟩, ca := cap9, ns := x3.ns ++ [⟨⟨pa, pca, pb, pcb, y.h.vs, y.h.zs⟩, y.s, y.m⟩] }, by omega, by go_num, HBA.out, HXZ.out, SA, GA⟩
      case measure => simp [intOf]; omega
    · have hkn : k = ns.length := by omega
      have HBE := Lib.hid (show x3.body = St.body ⟨a, ca, ns, b, cb, zs⟩ from by
        simp only [St.body, HBD.out, HXZ.out, hkn]
        rw [List.take_of_length_le (by simp)])
      clear hkn
      have o0 := G.box.c 0 _ rfl
      have o1 := G.box.c 1 _ rfl
      have r0 := S.res.c 0 _ rfl
      have r1 := S.res.c 1 _ rfl
      have rf := S.res.f
      have hQr := G.box.lt
      go_wp2
      refine bodyPost_ret (v := x3.v) (by simp [results, Tryz.results39, go_sem, r0, r1]) rfl ?_
      have tq : Turn (w.heap.size + 1) (w.heap.size + 2) wr ((wr.setCell ⟨w.heap.size + 1, 0, none⟩ (.slice x3.a x3.ns.length x3.ca)).setCell ⟨w.heap.size + 1, 1, none⟩ (.slice x3.b x3.zs.length x3.cb)) := (turn_set _ _ _ _).trans (turn_set _ _ _ _)
      exact ⟨x3, HBE.out, rfl, (G.in_.turn tq (.inr (Nat.le_refl _))).mono (Nat.le_add_right _ _) tq.size (Nat.le_refl _), tq.below S.below (by omega) S.below.size⟩
end Go.Proofs.YtglcailcdcpadaaGreatDoor
