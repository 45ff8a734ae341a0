/-
  The draw of a structure that may be bent: of what is drawn only the sizes are told.
-/
import Derived.Test.YtglcailcdcpadaaGreatDoorZ43
namespace Go.Proofs.YtglcailcdcpadaaGreatDoor
open Go Go.RowKit Go.ChangeAt Go.ChangeShapes Go.WideShapes

/-- The sizes of what is bent. -/
structure BtOk (x : St) : Prop where
  n : x.ns.length ≤ 5
  z : x.zs.length ≤ 26
  each : ∀ y ∈ x.ns, y.h.vs.length ≤ 3 ∧ y.h.zs.length ≤ 3
theorem DrOk.bt {x : St} (h : DrOk x) : BtOk x := ⟨h.n, by have := h.sq; omega, fun y hy => by have := h.each y hy; omega⟩
theorem BtOk.small {x : St} (h : BtOk x) : Small x.body := by
  refine ⟨by simp only [St.body, List.length_map]; have := h.n; omega, by simp only [St.body]; have := h.z; omega, fun y hy => ?_⟩
  obtain ⟨z, hz, rfl⟩ := List.mem_map.1 hy
  have h1 := h.each z hz
  exact ⟨by show z.h.vs.length ≤ _; omega, by show z.h.zs.length ≤ _; omega⟩
/-- A structure that may be read, its rows in blocks from lo on, below hi; a row that is nil has no room. -/
structure St.Rd (lo hi : Nat) (W : World) (x : St) : Prop where
  nodes : RowIn lo hi W x.a (ndVals x.ns)
  next : RowIn lo hi W x.b (intVals x.zs)
  each : ∀ y ∈ x.ns, RowIn lo hi W y.h.a (intVals y.h.vs) ∧ RowIn lo hi W y.h.b (intVals y.h.zs)
  nil : (∀ y ∈ x.ns, y.Nil) ∧ (x.b = none → x.cb = 0)
  cap : x.zs.length ≤ x.cb
section
variable {lo hi lo' hi' : Nat} {W W' : World} {x : St}
theorem St.Rd.at_ (h : x.Rd lo hi W) : x.At W := ⟨⟨h.nodes.row, fun y hy => ⟨(h.each y hy).1.row, (h.each y hy).2.row⟩⟩, h.next.row⟩
theorem St.Rd.turn (h : x.Rd lo hi W) (t : Turn lo' hi' W W') (hd : hi ≤ lo' ∨ hi' ≤ lo) : x.Rd lo hi W' :=
  ⟨h.nodes.turn t hd, h.next.turn t hd, fun y hy => ⟨(h.each y hy).1.turn t hd, (h.each y hy).2.turn t hd⟩, h.nil, h.cap⟩
theorem St.Rd.below (h : x.Rd lo hi W) (hb : Below W.heap.size W W') : x.Rd lo hi W' := h.turn (lo' := hi) (hi' := hi) (Turn.of_below hb) (.inl (Nat.le_refl _))
theorem RowIn.mono2 {a : Option Addr} {xs : List Value} (h : RowIn lo hi W a xs) (h1 : lo' ≤ lo) (h2 : hi ≤ hi') (h3 : hi' ≤ W.heap.size) : RowIn lo' hi' W a xs :=
  ⟨h3, fun k x hx => let ⟨b, o, e, q1, q2, q3⟩ := h.2 k x hx; ⟨b, o, e, Nat.le_trans h1 q1, Nat.lt_of_lt_of_le q2 h2, q3⟩⟩
theorem St.Rd.mono (h : x.Rd lo hi W) (h1 : lo' ≤ lo) (h2 : hi ≤ hi') (h3 : hi' ≤ W.heap.size) : x.Rd lo' hi' W :=
  ⟨h.nodes.mono2 h1 h2 h3, h.next.mono2 h1 h2 h3, fun y hy => ⟨(h.each y hy).1.mono2 h1 h2 h3, (h.each y hy).2.mono2 h1 h2 h3⟩, h.nil, h.cap⟩
theorem St.In.rd (h : x.In lo hi W) : x.Rd lo hi W := by
  refine ⟨h.nodes.rowIn, h.next.rowIn, fun y hy => ⟨(h.each y hy).pv.rowIn, (h.each y hy).pz.rowIn⟩, ⟨fun y hy => ⟨own_none (h.each y hy).pv.2.1, own_none (h.each y hy).pz.2.1⟩, own_none h.next.2.1⟩, ?_⟩
  obtain ⟨a, c, e, hc⟩ := h.next.form
  injection e with _ _ e3
  omega
end
theorem Sq.pairIn {lo Q : Nat} {x : St} {W W' : World} {z : Int} (h : Sq lo Q x W) {b' : Option Addr} {c' : Nat} (hown : W'.ownsRow lo 3 1 (.slice b' (x.zs.length + 1) c') (x.zs.length + 1) (intVals x.zs ++ [.int .i64 z])) (hg : W.grownBy W' x.vb.ownBlock)
    (hat : (Value.slice b' (x.zs.length + 1) c').ownBlock = x.vb.ownBlock ∨ (Value.slice b' (x.zs.length + 1) c').ownBlock = some W.heap.size) :
    Sq lo Q { x with b := b', cb := c', zs := x.zs ++ [z] } (W'.setCell ⟨Q, 1, none⟩ (.slice b' (x.zs.length + 1) c')) := by
  have hin := h.in_.pair (z := z) (by rw [intVals_snoc]; exact hown) hg hat
  have hb := (h.box.grown hg fun e => h.off (.inr (.inl e))).set 1 (.slice b' (x.zs.length + 1) c')
  have hQ := h.box.lt
  have ts := turn_set W' Q 1 (.slice b' (x.zs.length + 1) c')
  have hoff : ¬ St.has { x with b := b', cb := c', zs := x.zs ++ [z] } Q := by
    rintro (hk | hk | hk)
    · exact h.off (.inl hk)
    · have hk : (Value.slice b' (x.zs ++ [z]).length c').ownBlock = some Q := hk
      rw [List.length_append] at hk
      rcases hat with e | e
      · exact h.off (.inr (.inl (e.symm.trans hk)))
      · have := Option.some.inj (e.symm.trans hk)
        omega
    · exact h.off (.inr (.inr hk))
  refine ⟨?_, (hin.same ts.size fun k hk => ts.block k (Nat.lt_of_lt_of_le (hin.has_lt hk).2 (Nat.le_refl _)) (by
    have : k ≠ Q := fun e => hoff (e ▸ hk)
    omega)).mono (Nat.le_refl _) ts.size (Nat.le_refl _), hoff⟩
  simp only [St.va, St.vb, List.length_append, List.length_cons, List.length_nil, Nat.zero_add]
  exact hb
theorem BtOk.set {x : St} (h : BtOk x) {i : Nat} {y : Nd} (hy : y.h.vs.length ≤ 3 ∧ y.h.zs.length ≤ 3) : BtOk { x with ns := x.ns.set i y } := by
  refine ⟨by simpa using h.n, h.z, fun z hz => ?_⟩
  rcases List.mem_or_eq_of_mem_set hz with hz | rfl
  · exact h.each z hz
  · exact hy
/-- The second row of the first node cut: it may still be read. -/
theorem bent_cut {lo Q ga gr o3 zl zb : Nat} {W : World} {x : St} (S : Sq lo Q x W) (hn0 : 0 < x.ns.length) (hxa : x.a = some ⟨ga, 0, none⟩) (hgr : x.ns[0].h.b = some ⟨gr, 0, none⟩) (hap : gr ≠ ga) (hgl : lo ≤ gr ∧ gr < W.heap.size) (hzl : x.ns[0].h.zs.length = zl)
    (hnews : ∀ j u, ((intVals x.ns[0].h.zs).drop 1)[j]? = some u → W.cell? ((⟨gr, o3, none⟩ : Addr).add j) = some u) :
    St.Rd lo W.heap.size (W.setCell ⟨ga, 1, none⟩ (.slice (some ⟨gr, o3, none⟩) (zl - 1) (zb - 1))) { x with ns := x.ns.set 0 ⟨⟨x.ns[0].h.a, x.ns[0].h.ca, some ⟨gr, o3, none⟩, zb - 1, x.ns[0].h.vs, x.ns[0].h.zs.drop 1⟩, x.ns[0].s, x.ns[0].m⟩ } := by
  have hin := S.in_
  have hrd := hin.rd
  have hm := List.getElem_mem hn0
  have ts := turn_set W ga 1 (.slice (some ⟨gr, o3, none⟩) (zl - 1) (zb - 1))
  have hva : x.va.ownBlock = some ga := by simp only [St.va, hxa]; rfl
  have keepI : ∀ z ∈ x.ns, z.h.In lo W.heap.size (W.setCell ⟨ga, 1, none⟩ (.slice (some ⟨gr, o3, none⟩) (zl - 1) (zb - 1))) := fun z hz =>
    (hin.each z hz).same ts.size fun k hk => ts.block k ((hin.each z hz).has_lt hk).2 (by
      have : k ≠ ga := fun e => hin.an ga hva _ (List.mem_map.2 ⟨z, hz, rfl⟩) (e ▸ hk)
      omega)
  have hlz : (x.ns[0].h.zs.drop 1).length = zl - 1 := by rw [List.length_drop, hzl]
  refine ⟨?_, ?_, ?_, ⟨?_, hrd.nil.2⟩, hrd.cap⟩
  · have h1 := hin.nodes
    simp only [St.va, hxa] at h1
    have h2 : OwnIn lo W.heap.size (W.setCell ⟨ga, 1, none⟩ (.slice (some ⟨gr, o3, none⟩) (zl - 1) (zb - 1))) 56 4 (.slice (some ⟨ga, 0, none⟩) x.ns.length x.ca) x.ns.length ((ndVals x.ns).set (0 * 4 + 1) (.slice (some ⟨gr, o3, none⟩) (zl - 1) (zb - 1))) := ⟨by simp, (by have := (h1.2.1.stored 1 (.slice (some ⟨gr, o3, none⟩) (zl - 1) (zb - 1))).1; simpa using this), h1.2.2⟩
    have h3 := h2.rowIn
    show RowIn _ _ _ x.a (ndVals (x.ns.set 0 _))
    rw [hxa, show ndVals (x.ns.set 0 ⟨⟨x.ns[0].h.a, x.ns[0].h.ca, some ⟨gr, o3, none⟩, zb - 1, x.ns[0].h.vs, x.ns[0].h.zs.drop 1⟩, x.ns[0].s, x.ns[0].m⟩) = (ndVals x.ns).set (0 * 4 + 1) (.slice (some ⟨gr, o3, none⟩) (zl - 1) (zb - 1)) from fl_set ndCells_length x.ns 0 _ hn0 1 _ (by omega) (by simp only [ndCells, hlz, List.set_cons_succ, List.set_cons_zero])]
    exact h3
  · exact (hin.next.same ts.size fun q hq => ts.block q (hin.next.2.2 q hq) (by
      have : q ≠ ga := fun e => hin.ab ga hva (e ▸ hq)
      omega)).rowIn
  · intro z hz
    rcases List.mem_or_eq_of_mem_set hz with hz | rfl
    · exact ⟨(keepI z hz).pv.rowIn, (keepI z hz).pz.rowIn⟩
    · refine ⟨(keepI _ hm).pv.rowIn, by simp, fun k u hu => ?_⟩
      have e : intVals (x.ns[0].h.zs.drop 1) = (intVals x.ns[0].h.zs).drop 1 := by simp [intVals, List.map_drop]
      have h1 := hnews k u (by rw [← e]; exact hu)
      rw [add_plain] at h1
      exact ⟨gr, o3, rfl, hgl.1, hgl.2, (World.cell?_of_block (ts.block gr hgl.2 (by omega))).trans h1⟩
  · intro z hz
    rcases List.mem_or_eq_of_mem_set hz with hz | rfl
    · exact hrd.nil.1 z hz
    · exact ⟨(hrd.nil.1 _ hm).1, fun e => by cases e⟩
theorem beside_lit (w : World) {g b : Nat} (ns : List Int) (t : TypeId) (cs : Array Value) (hc : cs = (intVals ns).toArray) (hb : b = w.heap.size) (hg : g < w.heap.size) : Beside (w.alloc (.cells cs t)) g (some ⟨b, 0, none⟩) (intVals ns) := by
  subst hb hc
  exact beside_new (intVals ns).toArray hg
theorem runSl1 (V : World) (g n cap : Nat) (h : 1 ≤ n) : (Instr.slice 25 (.slice (some ⟨g, 0, none⟩) n cap) (some (.int .i64 1)) none none).run Tryz.prog V = .ok (.slice (some ⟨g, if cap = 1 then 0 else 1, none⟩) (n - 1) (cap - 1)) V :=
  run_tail 25 3 Tryz.underlying25 (by kernel_rfl) (fun V => by kernel_rfl) V g n cap 1 h
/-- A structure that may be bent, drawn: it may be read. -/
def StBent (g : Nat) (w : World) (e : Ending) (w' : World) : Prop := ∃ x : St, e = .returned x.v ∧ BtOk x ∧ x.Rd w.heap.size w'.heap.size w' ∧ Dg w g w'
theorem bent_end {g lo Q : Nat} {w W : World} {x : St} (hx : BtOk x) (D : Dg w g W) (S : Sq (w.heap.size + 1) Q x W) : StBent g w (.returned x.v) ((W.setCell ⟨w.heap.size, 0, none⟩ (.slice x.a x.ns.length x.ca)).setCell ⟨w.heap.size, 1, none⟩ (.slice x.b x.zs.length x.cb)) := by
  have tq : Turn w.heap.size (w.heap.size + 1) W ((W.setCell ⟨w.heap.size, 0, none⟩ (.slice x.a x.ns.length x.ca)).setCell ⟨w.heap.size, 1, none⟩ (.slice x.b x.zs.length x.cb)) := (turn_set _ _ _ _).trans (turn_set _ _ _ _)
  exact ⟨x, rfl, hx, ((S.in_.turn tq (.inr (Nat.le_refl _))).mono (Nat.le_succ _) tq.size (Nat.le_refl _)).rd, D.turn tq (Nat.le_refl _)⟩
set_option maxRecDepth 100000 in
set_option maxHeartbeats 1600000 in
theorem drawBentSt (g : Nat) (w : World) (hcur : Cur w g) : Calls Tryz.prog 34 #[.pointer (some ⟨g, 0, none⟩)] w (StBent g w) := by
  obtain ⟨i0, hi, hz0, hz1, hz2⟩ := info_parts numInfo
  have hg0 := hcur.lt
  go_enter Tryz.func34, Tryz.ntmps34
  go_wp2_with fail
  obtain ⟨W0, hW0, hb0, R0⟩ := one_boxL w [.slice none 0 0, .slice none 0 0] 27
  simp only [List.toArray] at hW0
  rw [hW0]
  clear hW0
  have hz0' := R0.lt
  have D0 := (Dg.start hcur).below hb0
  refine (drawSt g _ D0.cur).mono ?_
  rintro e w3 ⟨x, rfl, hx, hin3, D3⟩
  have HX := Lib.hid hx
  have hx5 := hx.n
  have hz25 := hx.sq
  have R3 := R0.turn (turn_drawn D3.grown) (.inr (by omega))
  have D3' := D0.draw D3.cur D3.grown
  have hz3 := D3.grown.size
  clear R0 D0 D3 hx
  go_wp2_with fail
  obtain ⟨W4, hW4, hb4, bq4⟩ := one_boxL w3 [.slice x.a x.ns.length x.ca, .slice x.b x.zs.length x.cb] 27
  simp only [List.toArray] at hW4
  rw [hW4]
  clear hW4
  have R4 := R3.below hb4
  have D4 := D3'.below hb4
  have S4 : Sq (w.heap.size + 1) w3.heap.size x W4 := ⟨bq4, (hin3.below hb4).mono (by omega) hb4.size (Nat.le_refl _), fun hk => absurd (hin3.has_lt hk).2 (Nat.lt_irrefl _)⟩
  have hwQ : w.heap.size + 1 ≤ w3.heap.size := by omega
  clear R3 D3' hin3 bq4 hb4
  generalize w3.heap.size = Q at *
  refine (drawBelow g 8 _ (by omega) (by omega) D4.cur).mono ?_
  rintro e w9 ⟨q, hq, rfl, hc5, hw5⟩
  have t5 := turn_drawn hw5
  have D9 := D4.draw hc5 hw5
  have R9 := R4.turn t5 (.inr (by omega))
  have S9 := S4.turn t5 (by omega) (.inr (by omega))
  clear D4 R4 S4 hc5 hw5 t5
  have o0 := S9.box.c 0 _ rfl
  have o1 := S9.box.c 1 _ rfl
  have of_ := S9.box.f
  have hQl := S9.box.lt
  have HBX := Lib.hid HX.out.bt
  by_cases q0 : q = 0
  · subst q0
    have hal := (Below.refl w9.heap.size w9).alloc (Nat.le_refl _) (.cells #[.int .i64 0] 3)
    have SA := S9.call hal
    have DA := D9.below hal
    have RA := R9.below hal
    have HSA := Lib.hid SA
    have hsz9 := R9.lt
    clear SA hal S9 R9 D9
    go_wp2_with (first
      | (at_builtin; refine wpList_append_own_at _ rfl (.tmp 11) (.tmp 12) 25 rfl (w.heap.size + 1) 3 i0 (.int .i64 0) 1 8 Tryz.underlying25 hi hz0 hz1 hz2 rfl (by decide) (.slice x.b x.zs.length x.cb) x.zs.length (intVals x.zs) rfl HSA.out.in_.next.2.1 ⟨w9.heap.size, 0, none⟩ 1 1 [.int .i64 0] rfl rfl (oneCell_at _) (oneCell_int _) (by unfold maxLen; omega) (by omega) (by simp; omega) ?_; intro v4 w4 hown4 hg4 _ hloc4; obtain ⟨b4, c4, rfl, _⟩ := own_shape hown4; have b9 := HSA.out.box.grown hg4 (fun e => HSA.out.off (.inr (.inl e))); have d4 := b9.c 1 _ rfl; have f4 := b9.f; have HO4 := Lib.hid hown4; have HG4 := Lib.hid hg4; have HL4 := Lib.hid hloc4; have e0 := b9.c 0 _ rfl; have t4 : Turn (w.heap.size + 1) w4.heap.size _ w4 := (Turn.of_grown hg4 (fun j hj => ⟨(HSA.out.in_.next.2.1.lt j hj).1, Nat.lt_of_lt_of_le (HSA.out.in_.next.2.1.lt j hj).2 hg4.size⟩)); have R4 := RA.turn t4 (.inl (Nat.lt_succ_self _)); have r40 := R4.c 0 _ rfl; have r41 := R4.c 1 _ rfl; have r4f := R4.f; clear o0 o1 of_ hown4 hg4 hloc4)
      | fail)
    have SB := HSA.out.pairIn HO4.out HG4.out HL4.out
    have DB := (DA.turn t4 (Nat.le_succ _)).turn (turn_set w4 Q 1 (.slice b4 (x.zs.length + 1) c4)) (by omega)
    have hbtB : BtOk { x with b := b4, cb := c4, zs := x.zs ++ [0] } := ⟨HBX.out.n, by show (x.zs ++ [0]).length ≤ 26; simp; omega, HBX.out.each⟩
    have hE := bent_end (lo := 0) hbtB DB SB
    simp only [List.length_append, List.length_cons, List.length_nil, Nat.zero_add] at hE
    exact bodyPost_ret (v := heV x.a x.ns.length x.ca b4 (x.zs.length + 1) c4) (by simp [results, Tryz.results34, go_sem, r40, r41]) rfl (by simpa [St.v] using hE)
  have HBT := HBX
  by_cases hbend : (q = 1 ∨ q = 2 ∨ q = 3) ∧ 0 < x.ns.length
  case neg =>
    have D := D9
    have R := R9
    have S := S9
    clear D9 R9 S9 o0 o1 of_
    by_cases hn0 : 0 < x.ns.length
    · have q1 : ¬ q = 1 := fun e => hbend ⟨.inl e, hn0⟩
      have q2 : ¬ q = 2 := fun e => hbend ⟨.inr (.inl e), hn0⟩
      have q3 : ¬ q = 3 := fun e => hbend ⟨.inr (.inr e), hn0⟩
      clear hbend
      have HEND := Lib.hid (bent_end (lo := 0) HBT.out D S)
      have o0 := S.box.c 0 _ rfl
      have o1 := S.box.c 1 _ rfl
      have r0 := R.c 0 _ rfl
      have r1 := R.c 1 _ rfl
      have rf := R.f
      have hwl := R.lt
      have hQe := S.box.lt
      clear D R S
      go_wp2
      exact bodyPost_ret (v := St.v x) (by simp [results, Tryz.results34, go_sem, r0, r1]) rfl HEND.out
    · have hnn : ¬ (0 : Int) < (x.ns.length : Int) := by omega
      clear hbend
      by_cases q1 : q = 1
      · subst q1
        have HEND := Lib.hid (bent_end (lo := 0) HBT.out D S)
        have o0 := S.box.c 0 _ rfl
        have o1 := S.box.c 1 _ rfl
        have r0 := R.c 0 _ rfl
        have r1 := R.c 1 _ rfl
        have rf := R.f
        have hwl := R.lt
        have hQe := S.box.lt
        clear D R S
        go_wp2
        exact bodyPost_ret (v := St.v x) (by simp [results, Tryz.results34, go_sem, r0, r1]) rfl HEND.out
      by_cases q2 : q = 2
      · subst q2
        have HEND := Lib.hid (bent_end (lo := 0) HBT.out D S)
        have o0 := S.box.c 0 _ rfl
        have o1 := S.box.c 1 _ rfl
        have r0 := R.c 0 _ rfl
        have r1 := R.c 1 _ rfl
        have rf := R.f
        have hwl := R.lt
        have hQe := S.box.lt
        clear D R S
        go_wp2
        exact bodyPost_ret (v := St.v x) (by simp [results, Tryz.results34, go_sem, r0, r1]) rfl HEND.out
      by_cases q3 : q = 3
      · subst q3
        have HEND := Lib.hid (bent_end (lo := 0) HBT.out D S)
        have o0 := S.box.c 0 _ rfl
        have o1 := S.box.c 1 _ rfl
        have r0 := R.c 0 _ rfl
        have r1 := R.c 1 _ rfl
        have rf := R.f
        have hwl := R.lt
        have hQe := S.box.lt
        clear D R S
        go_wp2
        exact bodyPost_ret (v := St.v x) (by simp [results, Tryz.results34, go_sem, r0, r1]) rfl HEND.out
      have HEND := Lib.hid (bent_end (lo := 0) HBT.out D S)
      have o0 := S.box.c 0 _ rfl
      have o1 := S.box.c 1 _ rfl
      have r0 := R.c 0 _ rfl
      have r1 := R.c 1 _ rfl
      have rf := R.f
      have hwl := R.lt
      have hQe := S.box.lt
      clear D R S
      go_wp2
      exact bodyPost_ret (v := St.v x) (by simp [results, Tryz.results34, go_sem, r0, r1]) rfl HEND.out
  case pos =>
  obtain ⟨hqq, hn0⟩ := hbend
  have hnni : (0 : Int) < (x.ns.length : Int) := by omega
  obtain ⟨ga, hxa, hgal, hgas⟩ := own_addr S9.in_.nodes.2.1 hn0
  have o0' : w9.cell? ⟨Q, 0, none⟩ = some (.slice (some ⟨ga, 0, none⟩) x.ns.length x.ca) := by rw [← hxa]; exact o0
  have hm := List.getElem_mem hn0
  have hin9 := S9.in_
  have hy3 := HX.out.each _ hm
  have hno : w9.ownsRow (w.heap.size + 1) 56 4 (.slice (some ⟨ga, 0, none⟩) x.ns.length x.ca) x.ns.length (ndVals x.ns) := by have := hin9.nodes.2.1; simp only [St.va, hxa] at this; exact this
  have HNC := Lib.hid (fun (W : World) (h : W.ownsRow (w.heap.size + 1) 56 4 (.slice (some ⟨ga, 0, none⟩) x.ns.length x.ca) x.ns.length (ndVals x.ns)) (j : Nat) (hj : j < 4) => show W.cell? ⟨ga, j, none⟩ = (ndCells x.ns[0])[j]? ∧ W.frozen? ⟨ga, j, none⟩ = false from by
    have h1 := h.cells (g := ga) rfl (0 * 4 + j) _ ((fl_at ndCells_length x.ns 0 hn0 j hj).trans (List.getElem?_eq_getElem (by rw [ndCells_length]; exact hj)))
    rw [add_plain, Nat.zero_mul, Nat.zero_add, Nat.zero_add] at h1
    exact ⟨h1.trans (List.getElem?_eq_getElem (by rw [ndCells_length]; exact hj)).symm, h.frozenAt j⟩)
  have HXA := Lib.hid hxa
  have HNO := Lib.hid hno
  have D := D9
  have R := R9
  have S := S9
  clear D9 R9 S9 o0 o1 of_ hxa hno
  have hd := Below.drew (Below.refl w9.heap.size w9)
  have HS := Lib.hid (fun (W : World) (h1 : Sq (w.heap.size + 1) Q x W) => show W.cell? ⟨Q, 0, none⟩ = some (.slice (some ⟨ga, 0, none⟩) x.ns.length x.ca) from by rw [← HXA.out]; exact h1.box.c 0 _ rfl)
  have S1 := HS.out _ (S.call hd)
  by_cases q1 : q = 1
  · subst q1
    go_wp2
    refine wp_region_keep (S := fun W => W.cell? ⟨Q, 0, none⟩ = some (.slice (some ⟨ga, 0, none⟩) x.ns.length x.ca)) (B := fun i => decide (i ≠ 7)) (by kernel_rfl) ?_
    refine anyKeep.take (i := 0) (v := ?_) rfl (by kernel_rfl) (by kernel_rfl) (by kernel_rfl) (by kernel_rfl) (fun _ _ _ h => h) rfl ?_ S1 ?_
    rotate_left
    · rintro w' h1
      go_simp
      try with_reducible rfl
    try simp only [Act.put, List.setIfInBounds_toArray]
    refine anyKeep.take (i := 1) (v := ?_) rfl (by kernel_rfl) (by kernel_rfl) (by kernel_rfl) (by kernel_rfl) (fun _ _ _ h => h) rfl ?_ S1 ?_
    rotate_left
    · rintro w' h1
      go_simp
      try with_reducible rfl
    try simp only [Act.put, List.setIfInBounds_toArray]
    refine anyKeep.take (i := 2) (v := ?_) rfl (by kernel_rfl) (by kernel_rfl) (by kernel_rfl) (by kernel_rfl) (fun _ _ _ h => h) rfl ?_ S1 ?_
    rotate_left
    · rintro w' h1
      go_simp
      try with_reducible rfl
    try simp only [Act.put, List.setIfInBounds_toArray]
    refine anyKeep.one (k := 3) (by kernel_rfl) rfl (fun K hK => ?_)
    go_simp
    have hB1 := ((Below.refl w9.heap.size w9).alloc (Nat.le_refl _) (.cells #[.int .i64 2, .int .i64 1, .int .i64 0, .int .i64 3] 3)).drew
    have hbes : Beside (w9.alloc (.cells #[.int .i64 2, .int .i64 1, .int .i64 0, .int .i64 3] 3)).drew g (some ⟨w9.heap.size, 0, none⟩) (intVals [2, 1, 0, 3]) := beside_lit w9 [2, 1, 0, 3] 3 #[.int .i64 2, .int .i64 1, .int .i64 0, .int .i64 3] rfl rfl D.cur.lt
    clear S1
    refine hK _ _ (fun _ => HS.out _ (S.call hB1)) ?_
    clear hK K
    try simp only [Act.put, List.setIfInBounds_toArray, List.set_cons_zero, List.set_cons_succ]
    refine anyKeep.one (k := 4) (by kernel_rfl) rfl (fun K hK => ?_)
    go_simp
    go_at_call 35
    refine (drawPickInt g 4 (some ⟨w9.heap.size, 0, none⟩) [2, 1, 0, 3] _ (by decide) (by decide) (D.below hB1).cur hbes).mono ?_
    rintro e wA ⟨zv, hzv, rfl, hcA, hwA⟩
    obtain ⟨zi, _, rfl⟩ := List.mem_map.1 hzv
    have tA := turn_drawn hwA
    have DA := (D.below hB1).draw hcA hwA
    have RA := (R.below hB1).turn tA (.inr (by omega))
    have SA := (S.call hB1).turn tA (by omega) (.inr (by omega))
    have hnoA := own_other (own_keeps HNO.out hB1) hwA (fun j hj e => by have h1 : ga = j := Option.some.inj hj; have h2 := Option.some.inj e; omega)
    obtain ⟨hc3, hf3⟩ := HNC.out _ hnoA 3 (by omega)
    have hc3 : wA.cell? ⟨ga, 3, none⟩ = some (.int .i64 x.ns[0].m) := hc3
    refine hK _ _ (fun _ => HS.out _ SA) ?_
    clear hK K
    try simp only [Act.put, List.setIfInBounds_toArray, List.set_cons_zero, List.set_cons_succ]
    refine anyKeep.one (k := 5) (by kernel_rfl) rfl (fun K hK => ?_)
    go_simp
    refine hK _ _ (fun _ => HS.out _ SA) ?_
    clear hK K
    try simp only [Act.put, List.setIfInBounds_toArray, List.set_cons_zero, List.set_cons_succ]
    refine anyKeep.one (k := 6) (by kernel_rfl) rfl (fun K hK => ?_)
    go_simp
    refine hK _ _ (fun _ => HS.out _ SA) ?_
    clear hK K
    try simp only [Act.put, List.setIfInBounds_toArray, List.set_cons_zero, List.set_cons_succ]
    refine anyKeep.one (k := 7) (by kernel_rfl) rfl (fun K hK => ?_)
    go_simp
    refine hK _ _ (fun e => by simp at e) ?_
    clear hK K
    try simp only [Act.put, List.setIfInBounds_toArray, List.set_cons_zero, List.set_cons_succ]
    refine anyKeep.done (by kernel_rfl) ?_
    have SB := SA.setNum HXA.out hn0 (y := ⟨x.ns[0].h, x.ns[0].s, zi⟩) (j := 3) (v := .int .i64 zi) rfl (by omega) rfl
    have DB := DA.turn (turn_set wA ga 3 (.int .i64 zi)) (by omega)
    have RB := RA.turn (turn_set wA ga 3 (.int .i64 zi)) (.inl (by omega))
    have HBTB := Lib.hid (HBX.out.set (i := 0) (y := ⟨x.ns[0].h, x.ns[0].s, zi⟩) (HBX.out.each x.ns[0] hm))
    clear hnoA hc3 hf3 hcA hwA tA SA DA RA D R S HS hbes hB1 HBT
    have HBT := HBTB
    have D := DB
    have R := RB
    have S := SB
    clear DB RB SB
    generalize hxB : ({ x with ns := x.ns.set 0 ⟨x.ns[0].h, x.ns[0].s, zi⟩ } : St) = xB at *
    have HEND := Lib.hid (bent_end (lo := 0) HBT.out D S)
    have o0 := S.box.c 0 _ rfl
    have o1 := S.box.c 1 _ rfl
    have r0 := R.c 0 _ rfl
    have r1 := R.c 1 _ rfl
    have rf := R.f
    have hwl := R.lt
    have hQe := S.box.lt
    clear D R S
    go_wp2
    exact bodyPost_ret (v := St.v xB) (by simp [results, Tryz.results34, go_sem, r0, r1]) rfl HEND.out
  by_cases q2 : q = 2
  · subst q2
    have hpv := (hin9.each _ hm).pv
    obtain ⟨gr, hgr, hgrl, hgrs⟩ := own_addr hpv.2.1 (by omega)
    obtain ⟨hc0, _⟩ := HNC.out _ HNO.out 0 (by omega)
    have hc0 : w9.cell? ⟨ga, 0, none⟩ = some (.slice (some ⟨gr, 0, none⟩) x.ns[0].h.vs.length x.ns[0].h.ca) := by rw [← hgr]; exact hc0
    have hro : w9.ownsRow (w.heap.size + 1) 3 1 (.slice (some ⟨gr, 0, none⟩) x.ns[0].h.vs.length x.ns[0].h.ca) x.ns[0].h.vs.length (intVals x.ns[0].h.vs) := by rw [← hgr]; exact hpv.2.1
    have HGR := Lib.hid hgr
    have HRO := Lib.hid hro
    have HY3 := Lib.hid hy3
    have hvl3 : (0 : Int) < (x.ns[0].h.vs.length : Int) := by omega
    clear hgr hro hpv hy3
    generalize hvl : x.ns[0].h.vs.length = vl at *
    generalize hva : x.ns[0].h.ca = va at *
    have HVL := Lib.hid hvl
    have hvlN : 0 < vl := by omega
    clear hvl hva
    have HS2 := Lib.hid (fun (W : World) (h1 : Sq (w.heap.size + 1) Q x W) (h2 : W.cell? ⟨ga, 0, none⟩ = some (.slice (some ⟨gr, 0, none⟩) vl va)) => show W.cell? ⟨Q, 0, none⟩ = some (.slice (some ⟨ga, 0, none⟩) x.ns.length x.ca) ∧ W.cell? ⟨ga, 0, none⟩ = some (.slice (some ⟨gr, 0, none⟩) vl va) from ⟨HS.out _ h1, h2⟩)
    have S2 := HS2.out _ (S.call hd) hc0
    go_wp2
    refine wp_region_keep (S := fun W => W.cell? ⟨Q, 0, none⟩ = some (.slice (some ⟨ga, 0, none⟩) x.ns.length x.ca) ∧ W.cell? ⟨ga, 0, none⟩ = some (.slice (some ⟨gr, 0, none⟩) vl va)) (B := fun i => decide (i ≠ 9)) (by kernel_rfl) ?_
    refine anyKeep.take (i := 0) (v := ?_) rfl (by kernel_rfl) (by kernel_rfl) (by kernel_rfl) (by kernel_rfl) (fun _ _ _ h => h) rfl ?_ S2 ?_
    rotate_left
    · rintro w' ⟨h1, h2⟩
      go_simp
      try with_reducible rfl
    try simp only [Act.put, List.setIfInBounds_toArray]
    refine anyKeep.take (i := 1) (v := ?_) rfl (by kernel_rfl) (by kernel_rfl) (by kernel_rfl) (by kernel_rfl) (fun _ _ _ h => h) rfl ?_ S2 ?_
    rotate_left
    · rintro w' ⟨h1, h2⟩
      go_simp
      try with_reducible rfl
    try simp only [Act.put, List.setIfInBounds_toArray]
    refine anyKeep.take (i := 2) (v := ?_) rfl (by kernel_rfl) (by kernel_rfl) (by kernel_rfl) (by kernel_rfl) (fun _ _ _ h => h) rfl ?_ S2 ?_
    rotate_left
    · rintro w' ⟨h1, h2⟩
      go_simp
      try with_reducible rfl
    try simp only [Act.put, List.setIfInBounds_toArray]
    refine anyKeep.take (i := 3) (v := ?_) rfl (by kernel_rfl) (by kernel_rfl) (by kernel_rfl) (by kernel_rfl) (fun _ _ _ h => h) rfl ?_ S2 ?_
    rotate_left
    · rintro w' ⟨h1, h2⟩
      go_simp
      try with_reducible rfl
    try simp only [Act.put, List.setIfInBounds_toArray]
    refine anyKeep.take (i := 4) (v := ?_) rfl (by kernel_rfl) (by kernel_rfl) (by kernel_rfl) (by kernel_rfl) (fun _ _ _ h => h) rfl ?_ S2 ?_
    rotate_left
    · rintro w' ⟨h1, h2⟩
      go_simp
      try with_reducible rfl
    try simp only [Act.put, List.setIfInBounds_toArray]
    refine anyKeep.take (i := 5) (v := ?_) rfl (by kernel_rfl) (by kernel_rfl) (by kernel_rfl) (by kernel_rfl) (fun _ _ _ h => h) rfl ?_ S2 ?_
    rotate_left
    · rintro w' ⟨h1, h2⟩
      go_simp
      try with_reducible rfl
    try simp only [Act.put, List.setIfInBounds_toArray]
    refine anyKeep.one (k := 6) (by kernel_rfl) rfl (fun K hK => ?_)
    go_simp
    have hB1 := ((Below.refl w9.heap.size w9).alloc (Nat.le_refl _) (.cells #[.int .i64 0, .int .i64 1, .int .i64 2, .int .i64 3] 3)).drew
    have hbes : Beside (w9.alloc (.cells #[.int .i64 0, .int .i64 1, .int .i64 2, .int .i64 3] 3)).drew g (some ⟨w9.heap.size, 0, none⟩) (intVals [0, 1, 2, 3]) := beside_lit w9 [0, 1, 2, 3] 3 #[.int .i64 0, .int .i64 1, .int .i64 2, .int .i64 3] rfl rfl D.cur.lt
    have hc01 : (w9.alloc (.cells #[.int .i64 0, .int .i64 1, .int .i64 2, .int .i64 3] 3)).drew.cell? ⟨ga, 0, none⟩ = some (.slice (some ⟨gr, 0, none⟩) vl va) := (hB1.cell (p := ⟨ga, 0, none⟩) hgas).trans hc0
    clear S1 S2
    refine hK _ _ (fun _ => HS2.out _ (S.call hB1) hc01) ?_
    clear hK K
    try simp only [Act.put, List.setIfInBounds_toArray, List.set_cons_zero, List.set_cons_succ]
    refine anyKeep.one (k := 7) (by kernel_rfl) rfl (fun K hK => ?_)
    go_simp
    go_at_call 35
    refine (drawPickInt g 4 (some ⟨w9.heap.size, 0, none⟩) [0, 1, 2, 3] _ (by decide) (by decide) (D.below hB1).cur hbes).mono ?_
    rintro e wA ⟨zv, hzv, rfl, hcA, hwA⟩
    obtain ⟨zi, _, rfl⟩ := List.mem_map.1 hzv
    have tA := turn_drawn hwA
    have DA := (D.below hB1).draw hcA hwA
    have RA := (R.below hB1).turn tA (.inr (by omega))
    have SA := (S.call hB1).turn tA (by omega) (.inr (by omega))
    have hroA := own_other (own_keeps HRO.out hB1) hwA (fun j hj e => by have h1 : gr = j := Option.some.inj hj; have h2 := Option.some.inj e; omega)
    have hfA := hroA.frozenAt 0
    have hzA := hroA.cellAt 0 (by rw [Nat.mul_one]; omega)
    rw [List.getElem?_eq_getElem (by rw [intVals_length, HVL.out]; omega)] at hzA
    have hcA0 : wA.cell? ⟨ga, 0, none⟩ = some (.slice (some ⟨gr, 0, none⟩) vl va) := (World.cell?_of_block (hwA.block ga (Nat.lt_of_lt_of_le hgas hB1.size) (fun e => by have := Option.some.inj e; omega))).trans hc01
    refine hK _ _ (fun _ => HS2.out _ SA hcA0) ?_
    clear hK K
    try simp only [Act.put, List.setIfInBounds_toArray, List.set_cons_zero, List.set_cons_succ]
    refine anyKeep.one (k := 8) (by kernel_rfl) rfl (fun K hK => ?_)
    go_simp
    refine hK _ _ (fun _ => HS2.out _ SA hcA0) ?_
    clear hK K
    try simp only [Act.put, List.setIfInBounds_toArray, List.set_cons_zero, List.set_cons_succ]
    refine anyKeep.one (k := 9) (by kernel_rfl) rfl (fun K hK => ?_)
    go_simp
    refine hK _ _ (fun e => by simp at e) ?_
    clear hK K
    try simp only [Act.put, List.setIfInBounds_toArray, List.set_cons_zero, List.set_cons_succ]
    refine anyKeep.done (by kernel_rfl) ?_
    have SB := SA.setVar (k := 0) (v := zi) hn0 HGR.out
    have DB := DA.turn (turn_set wA gr 0 (.int .i64 zi)) (by omega)
    have RB := RA.turn (turn_set wA gr 0 (.int .i64 zi)) (.inl (by omega))
    have HBTB := Lib.hid (HBX.out.set (i := 0) (y := x.ns[0].setV 0 zi) (by have := HBX.out.each _ hm; simpa [Nd.setV] using this))
    clear hroA hfA hzA hcA0 hcA hwA tA SA DA RA D R S HS HS2 hbes hB1 HBT hc01 hc0
    have HBT := HBTB
    have D := DB
    have R := RB
    have S := SB
    clear DB RB SB
    generalize hxB : ({ x with ns := x.ns.set 0 (x.ns[0].setV 0 zi) } : St) = xB at *
    have HEND := Lib.hid (bent_end (lo := 0) HBT.out D S)
    have o0 := S.box.c 0 _ rfl
    have o1 := S.box.c 1 _ rfl
    have r0 := R.c 0 _ rfl
    have r1 := R.c 1 _ rfl
    have rf := R.f
    have hwl := R.lt
    have hQe := S.box.lt
    clear D R S
    go_wp2
    exact bodyPost_ret (v := St.v xB) (by simp [results, Tryz.results34, go_sem, r0, r1]) rfl HEND.out
  have q3 : q = 3 := by omega
  subst q3
  have hpz := (hin9.each _ hm).pz
  obtain ⟨gr, hgr, hgrl, hgrs⟩ := own_addr hpz.2.1 (by omega)
  obtain ⟨hc1, hf1⟩ := HNC.out _ HNO.out 1 (by omega)
  have hc1 : w9.cell? ⟨ga, 1, none⟩ = some (.slice (some ⟨gr, 0, none⟩) x.ns[0].h.zs.length x.ns[0].h.cb) := by rw [← hgr]; exact hc1
  have hro : w9.ownsRow (w.heap.size + 1) 3 1 (.slice (some ⟨gr, 0, none⟩) x.ns[0].h.zs.length x.ns[0].h.cb) x.ns[0].h.zs.length (intVals x.ns[0].h.zs) := by rw [← hgr]; exact hpz.2.1
  have hnews := cut_news (m := 1) hro
  have hsl := fun V => runSl1 V gr x.ns[0].h.zs.length x.ns[0].h.cb (by omega)
  generalize (if x.ns[0].h.cb = 1 then 0 else 1) = o3 at *
  have hap : gr ≠ ga := fun e => hin9.an ga (by simp only [St.va, HXA.out]; rfl) _ (List.mem_map.2 ⟨_, hm, rfl⟩) (by show x.ns[0].hs ga; rw [← e]; exact .inr (by rw [hgr]; rfl))
  have hyn : x.ns[0].Nil := ⟨own_none (hin9.each _ hm).pv.2.1, own_none (hin9.each _ hm).pz.2.1⟩
  have HNEWS := Lib.hid hnews
  have HGR := Lib.hid hgr
  have HRO := Lib.hid hro
  have HY3 := Lib.hid hy3
  have HYN := Lib.hid hyn
  have HAP := Lib.hid hap
  have hzl1 : 1 ≤ x.ns[0].h.zs.length := by omega
  clear hgr hro hpz hy3 hnews hyn hap
  generalize hzl : x.ns[0].h.zs.length = zl at *
  generalize hzb : x.ns[0].h.cb = zb at *
  have HZL := Lib.hid hzl
  have HZB := Lib.hid hzb
  clear hzl hzb
  have S2 : w9.drew.cell? ⟨Q, 0, none⟩ = some (.slice (some ⟨ga, 0, none⟩) x.ns.length x.ca) ∧ w9.drew.cell? ⟨ga, 1, none⟩ = some (.slice (some ⟨gr, 0, none⟩) zl zb) := ⟨S1, hc1⟩
  go_wp2
  refine wp_region_keep (S := fun W => W.cell? ⟨Q, 0, none⟩ = some (.slice (some ⟨ga, 0, none⟩) x.ns.length x.ca) ∧ W.cell? ⟨ga, 1, none⟩ = some (.slice (some ⟨gr, 0, none⟩) zl zb)) (B := fun i => decide (i ≠ 10)) (by kernel_rfl) ?_
  refine anyKeep.take (i := 0) (v := ?_) rfl (by kernel_rfl) (by kernel_rfl) (by kernel_rfl) (by kernel_rfl) (fun _ _ _ h => h) rfl ?_ S2 ?_
  rotate_left
  · rintro w' ⟨h1, h2⟩
    go_simp
    try with_reducible rfl
  try simp only [Act.put, List.setIfInBounds_toArray]
  refine anyKeep.take (i := 1) (v := ?_) rfl (by kernel_rfl) (by kernel_rfl) (by kernel_rfl) (by kernel_rfl) (fun _ _ _ h => h) rfl ?_ S2 ?_
  rotate_left
  · rintro w' ⟨h1, h2⟩
    go_simp
    try with_reducible rfl
  try simp only [Act.put, List.setIfInBounds_toArray]
  refine anyKeep.take (i := 2) (v := ?_) rfl (by kernel_rfl) (by kernel_rfl) (by kernel_rfl) (by kernel_rfl) (fun _ _ _ h => h) rfl ?_ S2 ?_
  rotate_left
  · rintro w' ⟨h1, h2⟩
    go_simp
    try with_reducible rfl
  try simp only [Act.put, List.setIfInBounds_toArray]
  refine anyKeep.take (i := 3) (v := ?_) rfl (by kernel_rfl) (by kernel_rfl) (by kernel_rfl) (by kernel_rfl) (fun _ _ _ h => h) rfl ?_ S2 ?_
  rotate_left
  · rintro w' ⟨h1, h2⟩
    go_simp
    try with_reducible rfl
  try simp only [Act.put, List.setIfInBounds_toArray]
  refine anyKeep.take (i := 4) (v := ?_) rfl (by kernel_rfl) (by kernel_rfl) (by kernel_rfl) (by kernel_rfl) (fun _ _ _ h => h) rfl ?_ S2 ?_
  rotate_left
  · rintro w' ⟨h1, h2⟩
    go_simp
    try with_reducible rfl
  try simp only [Act.put, List.setIfInBounds_toArray]
  refine anyKeep.take (i := 5) (v := ?_) rfl (by kernel_rfl) (by kernel_rfl) (by kernel_rfl) (by kernel_rfl) (fun _ _ _ h => h) rfl ?_ S2 ?_
  rotate_left
  · rintro w' ⟨h1, h2⟩
    go_simp
    try with_reducible rfl
  try simp only [Act.put, List.setIfInBounds_toArray]
  refine anyKeep.take (i := 6) (v := ?_) rfl (by kernel_rfl) (by kernel_rfl) (by kernel_rfl) (by kernel_rfl) (fun _ _ _ h => h) rfl ?_ S2 ?_
  rotate_left
  · rintro w' ⟨h1, h2⟩
    go_simp
    try with_reducible rfl
  try simp only [Act.put, List.setIfInBounds_toArray]
  refine anyKeep.take (i := 7) (v := ?_) rfl (by kernel_rfl) (by kernel_rfl) (by kernel_rfl) (by kernel_rfl) (fun _ _ _ h => h) rfl ?_ S2 ?_
  rotate_left
  · rintro w' ⟨h1, h2⟩
    go_simp
    try with_reducible rfl
  try simp only [Act.put, List.setIfInBounds_toArray]
  have hf1' : w9.drew.frozen? ⟨ga, 1, none⟩ = false := hf1
  have hc1' := S2.2
  refine anyKeep.one (k := 8) (by kernel_rfl) rfl (fun K hK => ?_)
  go_simp
  refine hK _ _ (fun _ => S2) ?_
  clear hK K
  try simp only [Act.put, List.setIfInBounds_toArray, List.set_cons_zero, List.set_cons_succ]
  refine anyKeep.one (k := 9) (by kernel_rfl) rfl (fun K hK => ?_)
  go_simp
  refine hK _ _ (fun _ => S2) ?_
  clear hK K
  try simp only [Act.put, List.setIfInBounds_toArray, List.set_cons_zero, List.set_cons_succ]
  refine anyKeep.one (k := 10) (by kernel_rfl) rfl (fun K hK => ?_)
  go_simp
  refine hK _ _ (fun e => by simp at e) ?_
  clear hK K
  try simp only [Act.put, List.setIfInBounds_toArray, List.set_cons_zero, List.set_cons_succ]
  refine anyKeep.done (by kernel_rfl) ?_
  clear hsl S1 S2 hc1' hf1'
  have hcut := bent_cut S hn0 HXA.out HGR.out HAP.out ⟨hgrl, hgrs⟩ HZL.out HNEWS.out (zb := zb)
  have ts := turn_set w9 ga 1 (.slice (some ⟨gr, o3, none⟩) (zl - 1) (zb - 1))
  have hdr := Below.drew (Below.refl (w9.setCell ⟨ga, 1, none⟩ (.slice (some ⟨gr, o3, none⟩) (zl - 1) (zb - 1))).heap.size (w9.setCell ⟨ga, 1, none⟩ (.slice (some ⟨gr, o3, none⟩) (zl - 1) (zb - 1))))
  have DB := (D.turn ts (by omega)).below hdr
  have RB := (R.turn ts (.inl (by omega))).below hdr
  have hcb := hcut.below hdr
  have HBTB := Lib.hid (HBX.out.set (i := 0) (y := ⟨⟨x.ns[0].h.a, x.ns[0].h.ca, some ⟨gr, o3, none⟩, zb - 1, x.ns[0].h.vs, x.ns[0].h.zs.drop 1⟩, x.ns[0].s, x.ns[0].m⟩) (by
    have h1 := HBX.out.each x.ns[0] hm
    refine ⟨h1.1, ?_⟩
    show (x.ns[0].h.zs.drop 1).length ≤ 3
    rw [List.length_drop]
    omega))
  have hbx : BoxL (w9.setCell ⟨ga, 1, none⟩ (.slice (some ⟨gr, o3, none⟩) (zl - 1) (zb - 1))).drew Q [x.va, x.vb] := (S.box.turn ts (by have : Q ≠ ga := fun e => S.off (.inl (by simp only [St.va, HXA.out]; rw [e]; rfl)); omega)).below hdr
  have hszW : (w9.setCell ⟨ga, 1, none⟩ (.slice (some ⟨gr, o3, none⟩) (zl - 1) (zb - 1))).drew.heap.size = w9.heap.size := by simp
  clear D R S HS HNEWS HRO HY3 hcut hdr ts hc1 hf1
  generalize (w9.setCell ⟨ga, 1, none⟩ (.slice (some ⟨gr, o3, none⟩) (zl - 1) (zb - 1))).drew = WE at *
  have o0 := hbx.c 0 _ rfl
  have o1 := hbx.c 1 _ rfl
  have r0 := RB.c 0 _ rfl
  have r1 := RB.c 1 _ rfl
  have rf := RB.f
  have hwl := RB.lt
  have hQe := hbx.lt
  have tq : Turn w.heap.size (w.heap.size + 1) WE ((WE.setCell ⟨w.heap.size, 0, none⟩ (.slice x.a x.ns.length x.ca)).setCell ⟨w.heap.size, 1, none⟩ (.slice x.b x.zs.length x.cb)) := (turn_set _ _ _ _).trans (turn_set _ _ _ _)
  have HEND := Lib.hid (show StBent g w (.returned x.v) ((WE.setCell ⟨w.heap.size, 0, none⟩ (.slice x.a x.ns.length x.ca)).setCell ⟨w.heap.size, 1, none⟩ (.slice x.b x.zs.length x.cb)) from
    ⟨{ x with ns := x.ns.set 0 ⟨⟨x.ns[0].h.a, x.ns[0].h.ca, some ⟨gr, o3, none⟩, zb - 1, x.ns[0].h.vs, x.ns[0].h.zs.drop 1⟩, x.ns[0].s, x.ns[0].m⟩ }, by simp [St.v], HBTB.out, ((hcb.turn tq (.inr (Nat.le_refl _))).mono (Nat.le_succ _) (by rw [← hszW]; exact tq.size) (Nat.le_refl _)), DB.turn tq (Nat.le_refl _)⟩)
  clear hcb tq hbx DB RB
  go_wp2
  exact bodyPost_ret (v := x.v) (by simp [results, Tryz.results34, go_sem, r0, r1]) rfl HEND.out
end Go.Proofs.YtglcailcdcpadaaGreatDoor
