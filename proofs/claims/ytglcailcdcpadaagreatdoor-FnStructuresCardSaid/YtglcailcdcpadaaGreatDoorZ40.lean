/-
  The model's groups of nodes with equal names.
-/
import Derived.Test.YtglcailcdcpadaaGreatDoorZ26
import Derived.Test.YtglcailcdcpadaaGreatDoorZ05
import Derived.Test.YtglcailcdcpadaaGreatDoorZ06
namespace Go.Proofs.YtglcailcdcpadaaGreatDoor
open Go Go.RowKit Go.ChangeAt Go.ChangeShapes Go.WideShapes

theorem elemStr17 : Tryz.prog.elem 33 = 9 := by kernel_rfl
theorem sizeStr17 (V : World) : (sizeOf 9).run Tryz.prog V = .ok 1 V := by kernel_rfl
theorem elemLst17 : Tryz.prog.elem 154 = 25 := by kernel_rfl
theorem sizeLst17 (V : World) : (sizeOf 25).run Tryz.prog V = .ok 1 V := by kernel_rfl
theorem strInfo17 : (Tryz.prog.info? 9).map (fun i => (i.zero, i.size, i.bytes)) = some (some (.string ⟨#[]⟩), 1, 16) := by kernel_rfl
def GaveGroups (L : List Grp) (w : World) (e : Ending) (w' : World) : Prop :=
  ∃ gn cn go co ls, e = .returned (.slice (some ⟨go, 0, none⟩) L.length co) ∧ Gs (w.heap.size + 1) L gn cn go co ls w' ∧ Below w.heap.size w w'
theorem BoxL.only {W W' : World} {g : Nat} {xs : List Value} {S : Nat → Prop} (h : BoxL W g xs) (hO : Only S W W') (hn : ¬ S g) : BoxL W' g xs :=
  ⟨fun i x hx => (World.cell?_of_block (hO.block g h.lt hn)).trans (h.c i x hx), fun o => (World.frozen?_of_block (hO.block g h.lt hn)).trans (h.f o), Nat.lt_of_lt_of_le h.lt hO.size⟩
theorem bytes_inj {a b : ByteArray} (h : a.data.toList = b.data.toList) : a = b := ByteArray.ext (Array.toList_inj.1 h)
theorem split_at {α : Type} (l : List α) (q : Nat) (h : q < l.length) : l = l.take q ++ l[q] :: l.drop (q + 1) := by rw [← List.drop_eq_getElem_cons h, List.take_append_drop]
theorem set_split {α : Type} (l : List α) (q : Nat) (v : α) (h : q < l.length) : l.set q v = l.take q ++ v :: l.drop (q + 1) := by rw [List.set_eq_take_append_cons_drop, if_pos h]
theorem own_cell_lp {B : Nat} {L : List Grp} {gn cn go co : Nat} {ls : List Lp} {W : World} (h : Gs B L gn cn go co ls W) {q : Nat} (hq : q < ls.length) : W.cell? ⟨go, q, none⟩ = some (.slice (some ⟨ls[q].g, 0, none⟩) ls[q].xs.length ls[q].c) := by
  have hl := h.len
  have := h.o.cellAt q (by rw [Nat.mul_one]; omega)
  rwa [lpVals_at ls q hq] at this
set_option maxRecDepth 100000 in
set_option maxHeartbeats 3200000 in
theorem specGroups (x : St) (w : World) (h : Small x.body) (hat : x.At w) (hn10 : x.ns.length ≤ 10) :
    Calls Tryz.prog 132 #[x.v] w (GaveGroups (groupsTo x.body x.ns.length) w) := by
  obtain ⟨i0, hi, hz0, hz1, hz2⟩ := info_parts numInfo9
  obtain ⟨s0, hsi, hs0, hs1, hs2⟩ := info_parts strInfo17
  obtain ⟨l0, hli, hl0, hl1, hl2⟩ := info_parts listInfo
  have HNM := Lib.hid (fun (W : World) (k : Int) (hb : Below w.heap.size w W) => specNodeName x k W h (hat.below hb))
  have HOK := Lib.hid (fun k => groupsTo_ok x.body k)
  have HNX := Lib.hid (fun k => show groupsTo x.body (k + 1) = insG (nameS x.body (k : Int)) (k : Int) (groupsTo x.body k) from rfl)
  have hT0 : groupsTo x.body 0 = [] := rfl
  clear hat h
  generalize groupsTo x.body = T at *
  generalize nameS x.body = nms at *
  generalize x.body = sb at *
  obtain ⟨a, ca, ns, b, cb, zs⟩ := x
  simp only [St.v] at *
  go_enter Tryz.func132, Tryz.ntmps132
  go_wp2
  obtain ⟨W3, hW3, hB3, bx3, G3⟩ : ∃ W3, ((w.alloc (.cells #[.slice a ns.length ca, .slice b zs.length cb] 27)).alloc (.cells #[] 9)).alloc (.cells #[] 25) = W3 ∧ Below w.heap.size w W3 ∧ BoxL W3 w.heap.size [.slice a ns.length ca, .slice b zs.length cb] ∧ Gs (w.heap.size + 1) [] (w.heap.size + 1) 0 (w.heap.size + 1 + 1) 0 [] W3 := by
    obtain ⟨W0, hW0, hb0, bx0⟩ := one_boxL w [.slice a ns.length ca, .slice b zs.length cb] 27
    simp only [List.toArray] at hW0
    rw [hW0]
    have hz : W0.heap.size = w.heap.size + 1 := by rw [← hW0]; simp
    have ha := (Below.refl W0.heap.size W0).alloc (Nat.le_refl _) (.cells #[] 9)
    have hz1 : (W0.alloc (.cells #[] 9)).heap.size = w.heap.size + 1 + 1 := by simp [hz]
    have ha2 := (Below.refl (W0.alloc (.cells #[] 9)).heap.size (W0.alloc (.cells #[] 9))).alloc (Nat.le_refl _) (.cells #[] 25)
    have hab := ha.trans (ha2.mono (by rw [hz1]; omega))
    exact ⟨_, rfl, hb0.trans (hab.mono hb0.size), bx0.below hab, Gs.nil (emp_keep (emp_at hz.symm) _) (emp_at hz1.symm) (Nat.le_refl _) (by omega) (by omega)⟩
  rw [hW3]
  clear hW3
  go_loopw [3, 4, 5] (fun vn vo i wr => ∃ (k gn cn go co : Nat) (ls : List Lp), k ≤ ns.length ∧ i = .int .i64 k ∧ vn = .slice (some ⟨gn, 0, none⟩) (T k).length cn ∧ vo = .slice (some ⟨go, 0, none⟩) (T k).length co ∧ Gs (w.heap.size + 1) (T k) gn cn go co ls wr ∧ BoxL wr w.heap.size [.slice a ns.length ca, .slice b zs.length cb] ∧ Below w.heap.size w wr)
    (fun _ _ i _ => ns.length - (intOf i).toNat)
  case atStart => exact ⟨0, _, 0, _, 0, [], Nat.zero_le _, rfl, by rw [hT0]; rfl, by rw [hT0]; rfl, by rw [hT0]; exact G3, bx3, hB3⟩
  case round =>
    clear G3 bx3 hB3 hT0
    obtain ⟨k, gn, cn, go, co, ls, hk, rfl, rfl, rfl, G, bx, hB⟩ := hrel
    have c0 := bx.c 0 _ rfl
    have c1 := bx.c 1 _ rfl
    have hok := HOK.out k
    have hLn : (T k).length ≤ 10 := Nat.le_trans hok.len (by omega)
    have HOKK := Lib.hid hok
    clear hok
    by_cases hlt : k < ns.length
    · have hnx := HNX.out k
      generalize hTk : T k = L at *
      go_wp2_with fail
      refine (HNM.out _ (k : Int) hB).mono ?_
      rintro e w2 ⟨rfl, hb2⟩
      generalize nms (k : Int) = nm at *
      have HNX2 := Lib.hid hnx
      clear hnx hTk
      have G2 := Lib.hid (G.below hb2)
      have bx2 := bx.below hb2
      have hB2 := hB.trans (hb2.mono hB.size)
      clear G bx hB hb2 c0 c1
      have hszw := bx2.lt
      go_wp2
      have HPL := Lib.hid (placeG_lt nm L)
      have HPA := Lib.hid (placeG_at nm L)
      have HMT := Lib.hid (fun (h : placeG nm L < L.length) (e : L[placeG nm L].1 = nm) => insG_meet nm (k : Int) L h e)
      have HNW := Lib.hid (fun (e : ∀ h : placeG nm L < L.length, ¬ L[placeG nm L].1 = nm) => insG_new nm (k : Int) L e)
      have hple := placeG_le nm L
      generalize placeG nm L = pl at *
      go_loopw [7] (fun i wr => ∃ q : Nat, q ≤ pl ∧ i = .int .i64 q ∧ wr = w2) (fun i _ => pl - (intOf i).toNat)
      case atStart => exact ⟨0, Nat.zero_le _, rfl, rfl⟩
      case round =>
        obtain ⟨q, hq, rfl, rfl⟩ := hrel
        by_cases hqp : q < pl
        · have hql : q < L.length := by omega
          have hc := G2.out.n.cellAt q (by rw [Nat.mul_one]; exact hql)
          have hcn : (namesV L)[q]? = some (.string L[q].1) := by simp [namesV, strVals, hql]
          rw [hcn] at hc
          have hqi : (q : Int) < (L.length : Int) := by omega
          have hah : Op.bytesLess L[q].1.toList nm.toList = true := HPL.out q hql hqp
          clear hcn
          generalize L[q] = gq at *
          go_wp2
          go_roundw
          case rel => exact ⟨q + 1, by omega, by go_num, trivial⟩
          case measure => simp [intOf]; omega
        · have hqe : q = pl := by omega
          subst hqe
          by_cases hql : q < L.length
          · have hc := G2.out.n.cellAt q (by rw [Nat.mul_one]; exact hql)
            have hcn : (namesV L)[q]? = some (.string L[q].1) := by simp [namesV, strVals, hql]
            rw [hcn] at hc
            have hqi : (q : Int) < (L.length : Int) := by omega
            have hah : Op.bytesLess L[q].1.toList nm.toList = false := HPA.out hql
            clear hcn
            by_cases hme : L[q].1 = nm
            · have heq : (L[q].1.toList == nm.toList) = true := lists_eq (by rw [hme, ByteArray.toList_eq])
              have hT1 := HNX2.out.trans (HMT.out hql hme)
              have HT1 := Lib.hid hT1
              have hlL : ls.length = L.length := G2.out.len
              have hqls : q < ls.length := by omega
              have hld := own_cell_lp G2.out hqls
              have hxi := (G2.out.each _ (List.getElem_mem hqls))
              have HME := Lib.hid hme
              clear hme hT1 HNW HMT HPL HPA
              generalize hLq : L[q] = gq at *
              generalize hxq : ls[q] = y at *
              have HLQ := Lib.hid hLq
              have HXQ := Lib.hid hxq
              have hyl : y.xs.length ≤ 1048576 := by
                have h1 := HOKK.out.each gq (by rw [← HLQ.out]; exact List.getElem_mem hql)
                have h2 : y.xs = gq.2 := by
                  have h3 : (ls.map Lp.xs)[q]? = (L.map Prod.snd)[q]? := by rw [G2.out.xs]
                  simp [hqls, hql] at h3
                  rw [← HXQ.out, ← HLQ.out]
                  exact h3
                rw [h2]
                omega
              clear hLq hxq
              have hk63 : k ≤ 1048576 := by omega
              have hgo := G2.out.o.frozenAt q
              have hgol := (G2.out.o.lt go rfl).2
              have hG : Gs (w.heap.size + 1) (L.take q ++ (nm, gq.2) :: L.drop (q + 1)) gn cn go co (ls.take q ++ y :: ls.drop (q + 1)) wr := by
                have h1 := G2.out
                rw [split_at L q hql, split_at ls q hqls, HLQ.out, HXQ.out] at h1
                rw [← HME.out]
                simpa using h1
              have HGG := Lib.hid hG
              have hne : go ≠ y.g := by
                have h1 := hG.nd
                rw [List.map_append, List.map_cons] at h1
                exact fun e => (nodup_mid.1 h1).1 (by rw [← e]; simp)
              have HGO := Lib.hid hne
              have HOLD := Lib.hid (fun (w4 : World) (hg4 : (wr.alloc (.cells #[.int .i64 (k : Int)] 3)).grownBy w4 (some y.g)) => show w4.cell? ⟨go, q, none⟩ = some (.slice (some ⟨y.g, 0, none⟩) y.xs.length y.c) ∧ w4.frozen? ⟨go, q, none⟩ = false from
                ⟨(World.cell?_of_block (hg4.block go (by simp; omega) (fun e => hne (Option.some.inj e)))).trans ((((Below.refl wr.heap.size wr).alloc (Nat.le_refl _) (.cells #[.int .i64 (k : Int)] 3)).cell (p := ⟨go, q, none⟩) hgol).trans hld),
                 (World.frozen?_of_block (hg4.block go (by simp; omega) (fun e => hne (Option.some.inj e)))).trans ((((Below.refl wr.heap.size wr).alloc (Nat.le_refl _) (.cells #[.int .i64 (k : Int)] 3)).frozen (p := ⟨go, q, none⟩) hgol).trans hgo)⟩)
              clear hG hne
              go_wp2_with (first
                | (at_builtin; refine wpList_append_own_at _ rfl (.tmp 53) (.tmp 55) 25 rfl (w.heap.size + 1) 3 i0 (.int .i64 0) 1 8 Tryz.underlying25 hi hz0 hz1 hz2 rfl (by decide) (.slice (some ⟨y.g, 0, none⟩) y.xs.length y.c) y.xs.length (intVals y.xs) rfl (hxi.alloc _) ⟨wr.heap.size, 0, none⟩ 1 1 [.int .i64 (k : Int)] rfl rfl (oneCell_at _) (oneCell_int _) (by unfold maxLen; omega) (by omega) (by simp; omega) ?_; intro v4 w4 hown4 hg4 hnil4 hloc4; obtain ⟨g4, c4, rfl, _, _, _⟩ := own_real hown4 (fun e => by have := hnil4.1 e; simp at this); have d4 := HOLD.out _ hg4; obtain ⟨d4, f4⟩ := d4)
                | fail)
              have hal := (Below.refl wr.heap.size wr).alloc (Nat.le_refl _) (.cells #[.int .i64 (k : Int)] 3)
              obtain ⟨_, G5⟩ := (HGG.out.below hal).meet (by simp; omega) hown4 hg4 (hloc4.elim (fun e => .inl (Option.some.inj e).symm) (fun e => .inr (Option.some.inj e)))
              rw [show (L.take q).length = q from by simp; omega] at G5
              have hTk : T (k + 1) = L.take q ++ (nm, gq.2 ++ [(k : Int)]) :: L.drop (q + 1) := by rw [HT1.out, set_split L q _ hql]
              have hTl : (T (k + 1)).length = L.length := by rw [HT1.out, List.length_set]
              have tq : Turn (w.heap.size + 1) (w4.heap.size) (wr.alloc (.cells #[.int .i64 (k : Int)] 3)) w4 := Turn.of_grown hg4 (fun j hj => by
                have h1 : y.g = j := Option.some.inj hj
                have h2 := (HGG.out.lt y.g (by simp)).1
                have h3 := (HGG.out.lt y.g (by simp)).2
                have h4 := hg4.size
                simp at h4
                omega)
              have tq2 : Turn (w.heap.size + 1) (w4.heap.size + go + 1) (wr.alloc (.cells #[.int .i64 (k : Int)] 3)) (w4.setCell ⟨go, q, none⟩ (.slice (some ⟨g4, 0, none⟩) (y.xs.length + 1) c4)) :=
                (tq.mono (Nat.le_refl _) (by omega)).trans ((turn_set _ _ _ _).mono (HGG.out.lt go (by simp)).1 (by omega))
              go_roundw
              case rel => exact ⟨k + 1, gn, cn, go, co, _, by omega, by go_num, by rw [hTl], by rw [hTl], by rw [hTk]; exact G5, (bx2.below hal).turn tq2 (.inl (by omega)), tq2.below (hB2.trans (hal.mono hB2.size)) (by omega) (hB2.trans (hal.mono hB2.size)).size⟩
              case measure => simp [intOf]; omega
            · have heq : (L[q].1.toList == nm.toList) = false := lists_ne (fun e => hme (bytes_inj (by rw [ByteArray.toList_eq] at e; exact e)))
              have HT1 := Lib.hid (HNX2.out.trans (HNW.out fun h e => hme e))
              clear hme
              generalize L[q] = gq at *
              have hll : ls.length = L.length := G2.out.len
              have hqls : q ≤ ls.length := by omega
              have hqcn : q ≤ cn := Nat.le_trans hple (own_cap G2.out.n)
              have hqco : q ≤ co := Nat.le_trans hple (own_cap G2.out.o)
              have hgnl := (G2.out.n.lt gn rfl).2
              have hgol := (G2.out.o.lt go rfl).2
              have hgnl' := (G2.out.n.lt gn rfl).1
              have hgol' := (G2.out.o.lt go rfl).1
              have hnego : gn ≠ go := by
                have h1 := G2.out.nd
                rw [List.nodup_cons] at h1
                exact fun e => h1.1 (by rw [e]; simp)
              have hsl1 := fun V => run_tail 33 9 Tryz.underlying33 elemStr17 sizeStr17 V gn L.length cn q hple
              have hsl2 := fun V => run_head 33 9 Tryz.underlying33 elemStr17 sizeStr17 V gn L.length cn q hqcn
              have hsl3 := fun V => run_tail 154 25 Tryz.underlying154 elemLst17 sizeLst17 V go L.length co q hple
              have hsl4 := fun V => run_head 154 25 Tryz.underlying154 elemLst17 sizeLst17 V go L.length co q hqco
              have hln : ((namesV L).drop q).length = L.length - q := by simp [namesV, strVals]
              have hlo : ((lpVals ls).drop q).length = L.length - q := by rw [List.length_drop, lpVals_length, hll]
              have hon : ∀ u ∈ (namesV L).drop q, u.oneCell' = true := fun u hu => by
                have := List.mem_of_mem_drop hu
                simp only [namesV, strVals, List.mem_map] at this
                obtain ⟨_, _, rfl⟩ := this
                rfl
              have hoo : ∀ u ∈ (lpVals ls).drop q, u.oneCell' = true := fun u hu => by
                have := List.mem_of_mem_drop hu
                simp only [lpVals, fl, List.mem_flatMap] at this
                obtain ⟨z, _, hz⟩ := this
                rw [List.mem_singleton.1 hz]
                rfl
              have HLL := Lib.hid hll
              have HLN := Lib.hid hln
              have HLO := Lib.hid hlo
              have HSZ := Lib.hid hszw
              clear hll hln hlo
              have hcut1 := fun (W : World) (h : W.ownsRow (w.heap.size + 1) 9 1 (.slice (some ⟨gn, 0, none⟩) L.length cn) L.length (namesV L)) => cut_news (m := q) h
              have hcut2 := fun (W : World) (h : W.ownsRow (w.heap.size + 1) 25 1 (.slice (some ⟨go, 0, none⟩) L.length co) L.length (lpVals ls)) => cut_news (m := q) h
              generalize (if cn = q then 0 else q) = o1 at *
              generalize (if co = q then 0 else q) = o2 at *
              have HC1 := Lib.hid hcut1
              have HC2 := Lib.hid hcut2
              have a1 := (Below.refl wr.heap.size wr).alloc (Nat.le_refl _) (.cells #[] 9)
              have HA1 := Lib.hid a1
              have HLT := Lib.hid G2.out.lt
              have HAB := Lib.hid (fun (W : World) => show Below W.heap.size W ((W.alloc (.cells #[.int .i64 (k : Int)] 3)).alloc (.cells #[.slice (some ⟨W.heap.size, 0, none⟩) 1 1] 25)) from
                ((Below.refl _ _).alloc (Nat.le_refl _) _).alloc (by simp) _)
              have HLIT := Lib.hid (fun (W : World) => show ∀ j u, [Value.slice (some ⟨W.heap.size, 0, none⟩) 1 1][j]? = some u → ((W.alloc (.cells #[.int .i64 (k : Int)] 3)).alloc (.cells #[.slice (some ⟨W.heap.size, 0, none⟩) 1 1] 25)).cell? ((⟨W.heap.size + 1, 0, none⟩ : Addr).add j) = some u from fun j u hu => by
                have := lit_news (W.alloc (.cells #[.int .i64 (k : Int)] 3)) (.slice (some ⟨W.heap.size, 0, none⟩) 1 1) 25 j u hu
                simpa using this)
              have HXO := Lib.hid (fun (W : World) (hb : w.heap.size + 1 ≤ W.heap.size) => show ((W.alloc (.cells #[.int .i64 (k : Int)] 3)).alloc (.cells #[.slice (some ⟨W.heap.size, 0, none⟩) 1 1] 25)).ownsRow (w.heap.size + 1) 3 1 (.slice (some ⟨W.heap.size, 0, none⟩) 1 1) 1 [.int .i64 (k : Int)] from (own_lit (.int .i64 (k : Int)) hb).alloc _)
              clear a1 hcut1 hcut2
              go_wp2_with (first
                | (at_builtin; refine wpList_append_own_at _ rfl (.tmp 58) (.tmp 61) 33 rfl (w.heap.size + 1) 9 s0 (.string ⟨#[]⟩) 1 16 Tryz.underlying33 hsi hs0 hs1 hs2 rfl (by decide) (.slice (some ⟨wr.heap.size, 0, none⟩) 0 0) 0 [] rfl (empty_own (emp_at rfl) (by omega)) ⟨gn, o1, none⟩ (L.length - q) (cn - q) ((namesV L).drop q) rfl (by rw [HLN.out, Nat.mul_one]) (HC1.out _ (own_keeps G2.out.n HA1.out)) hon (by unfold maxLen; omega) (by omega) (by simp; omega) ?_; intro v4 w4 hown4 hg4 hnil4 hloc4; obtain ⟨g4, c4, rfl, _, hge4, hlt4⟩ := own_real hown4 (fun e => by have := hnil4.1 e; simp at this); rw [Nat.zero_add] at *; rw [List.nil_append] at hown4; have z4 := hg4.size; simp only [World.size_alloc] at z4; have hn4 := own_apart (own_keeps G2.out.n HA1.out) hg4 (show gn ≠ wr.heap.size by omega); have hk4 : g4 = wr.heap.size ∨ wr.heap.size < g4 := hloc4.elim (fun e => .inl (Option.some.inj e)) (fun e => .inr (by have := Option.some.inj e; simp at this; omega)); have O4 : Only (fun k => wr.heap.size ≤ k) wr w4 := (Only.of_below HA1.out).trans (Only.of_grown hg4 (fun k hk => Nat.le_of_eq (show wr.heap.size = k from Option.some.inj hk))); have HN4 := Lib.hid hn4; have HT4 := Lib.hid hown4; have HO4 := Lib.hid O4; clear hg4 hnil4 hloc4 hn4 hown4 O4)
                | (at_builtin; refine wpList_append_own_at _ rfl (.tmp 65) (.tmp 67) 33 rfl (w.heap.size + 1) 9 s0 (.string ⟨#[]⟩) 1 16 Tryz.underlying33 hsi hs0 hs1 hs2 rfl (by decide) (.slice (some ⟨gn, 0, none⟩) q cn) q ((namesV L).take q) rfl ((own_cut HN4.out hple).alloc _) ⟨w4.heap.size, 0, none⟩ 1 1 [.string nm] rfl rfl (oneCell_at _) (oneCell_str _) (by unfold maxLen; omega) (by omega) (by simp; omega) ?_; intro v5 w5 hown5 hg5 hnil5 hloc5; obtain ⟨g5, c5, rfl, _, hge5, hlt5⟩ := own_real hown5 (fun e => by have := hnil5.1 e; simp at this); have z5 := hg5.size; simp only [World.size_alloc] at z5; have hk5 : g5 = gn ∨ w4.heap.size < g5 := hloc5.elim (fun e => .inl (Option.some.inj e)) (fun e => .inr (by have := Option.some.inj e; simp at this; omega)); have ht5 := own_apart (own_keeps HT4.out ((Below.refl w4.heap.size w4).alloc (Nat.le_refl _) (.cells #[.string nm] 9))) hg5 (show g4 ≠ gn by omega); have O5 : Only (fun k => k = gn ∨ w4.heap.size ≤ k) w4 w5 := (Only.of_below ((Below.refl w4.heap.size w4).alloc (Nat.le_refl _) (.cells #[.string nm] 9))).trans (Only.of_grown hg5 (fun k hk => .inl (show gn = k from Option.some.inj hk).symm)); have HN5 := Lib.hid hown5; have HT5 := Lib.hid ht5; have HO5 := Lib.hid O5; clear hg5 hnil5 hloc5 hown5 ht5 O5)
                | (at_builtin; refine wpList_append_own_at _ rfl (.tmp 68) (.tmp 69) 33 rfl (w.heap.size + 1) 9 s0 (.string ⟨#[]⟩) 1 16 Tryz.underlying33 hsi hs0 hs1 hs2 rfl (by decide) (.slice (some ⟨g5, 0, none⟩) (q + 1) c5) (q + 1) ((namesV L).take q ++ [.string nm]) rfl HN5.out ⟨g4, 0, none⟩ (L.length - q) c4 ((namesV L).drop q) rfl (by rw [HLN.out, Nat.mul_one]) (fun j u hu => HT5.out.cells (g := g4) rfl j u hu) hon (by unfold maxLen; omega) (by omega) (by omega) ?_; intro v6 w6 hown6 hg6 hnil6 hloc6; obtain ⟨g6, c6, rfl, _, hge6, hlt6⟩ := own_real hown6 (fun e => by have := hnil6.1 e; simp at this); have z6 := hg6.size; have hk6 : g6 = g5 ∨ w5.heap.size = g6 := hloc6.elim (fun e => .inl (Option.some.inj e)) (fun e => .inr (Option.some.inj e).symm); have O6 : Only (fun k => k = gn ∨ w4.heap.size ≤ k) w4 w6 := HO5.out.trans (Only.of_grown hg6 (fun k hk => by have h1 : g5 = k := Option.some.inj hk; show k = gn ∨ w4.heap.size ≤ k; omega)); have ho6 := own_only (own_only G2.out.o HO4.out (show ¬ wr.heap.size ≤ go by omega)) O6 (show ¬ (go = gn ∨ w4.heap.size ≤ go) by omega); have HN6 := Lib.hid hown6; have HG6 := Lib.hid ho6; have HO6 := Lib.hid O6; clear hg6 hnil6 hloc6 hown6 ho6 O6)
                | (at_builtin; refine wpList_append_own_at _ rfl (.tmp 71) (.tmp 74) 154 rfl (w.heap.size + 1) 25 l0 (.slice none 0 0) 1 24 Tryz.underlying154 hli hl0 hl1 hl2 rfl (by decide) (.slice (some ⟨w6.heap.size, 0, none⟩) 0 0) 0 [] rfl (empty_own (emp_at rfl) (by omega)) ⟨go, o2, none⟩ (L.length - q) (co - q) ((lpVals ls).drop q) rfl (by rw [HLO.out, Nat.mul_one]) (HC2.out _ (own_keeps HG6.out ((Below.refl w6.heap.size w6).alloc (Nat.le_refl _) (.cells #[] 25)))) hoo (by unfold maxLen; omega) (by omega) (by simp; omega) ?_; intro v7 w7 hown7 hg7 hnil7 hloc7; obtain ⟨g7, c7, rfl, _, hge7, hlt7⟩ := own_real hown7 (fun e => by have := hnil7.1 e; simp at this); rw [Nat.zero_add] at *; rw [List.nil_append] at hown7; have z7 := hg7.size; simp only [World.size_alloc] at z7; have ho7 := own_apart (own_keeps HG6.out ((Below.refl w6.heap.size w6).alloc (Nat.le_refl _) (.cells #[] 25))) hg7 (show go ≠ w6.heap.size by omega); have hk7 : g7 = w6.heap.size ∨ w6.heap.size < g7 := hloc7.elim (fun e => .inl (Option.some.inj e)) (fun e => .inr (by have := Option.some.inj e; simp at this; omega)); have O7 : Only (fun k => k = go ∨ w6.heap.size ≤ k) w6 w7 := (Only.of_below ((Below.refl w6.heap.size w6).alloc (Nat.le_refl _) (.cells #[] 25))).trans (Only.of_grown hg7 (fun k hk => .inr (Nat.le_of_eq (show w6.heap.size = k from Option.some.inj hk)))); have HG7 := Lib.hid ho7; have HT7 := Lib.hid hown7; have HO7 := Lib.hid O7; clear hg7 hnil7 hloc7 hown7 ho7 O7)
                | (at_builtin; refine wpList_append_own_at _ rfl (.tmp 78) (.tmp 81) 154 rfl (w.heap.size + 1) 25 l0 (.slice none 0 0) 1 24 Tryz.underlying154 hli hl0 hl1 hl2 rfl (by decide) (.slice (some ⟨go, 0, none⟩) q co) q ((lpVals ls).take q) rfl (((own_cut HG7.out hple).alloc _).alloc _) ⟨w7.heap.size + 1, 0, none⟩ 1 1 [.slice (some ⟨w7.heap.size, 0, none⟩) 1 1] rfl rfl (HLIT.out w7) (lit_one _ _ _) (by unfold maxLen; omega) (by omega) (by simp; omega) ?_; intro v8 w8 hown8 hg8 hnil8 hloc8; obtain ⟨g8, c8, rfl, _, hge8, hlt8⟩ := own_real hown8 (fun e => by have := hnil8.1 e; simp at this); have z8 := hg8.size; simp only [World.size_alloc] at z8; have hk8 : g8 = go ∨ w7.heap.size + 1 < g8 := hloc8.elim (fun e => .inl (Option.some.inj e)) (fun e => .inr (by have := Option.some.inj e; simp at this; omega)); have ht8 := own_apart (own_keeps HT7.out (HAB.out w7)) hg8 (show g7 ≠ go by omega); have hx8 := own_apart (HXO.out w7 (by omega)) hg8 (show w7.heap.size ≠ go by omega); have O8 : Only (fun k => k = go ∨ w6.heap.size ≤ k) w6 w8 := HO7.out.trans ((Only.of_below (HAB.out w7)).trans (Only.of_grown hg8 (fun k hk => .inl (show go = k from Option.some.inj hk).symm))); have HG8 := Lib.hid hown8; have HT8 := Lib.hid ht8; have HX8 := Lib.hid hx8; have HO8 := Lib.hid O8; clear hg8 hnil8 hloc8 hown8 ht8 hx8 O8)
                | (at_builtin; refine wpList_append_own_at _ rfl (.tmp 82) (.tmp 83) 154 rfl (w.heap.size + 1) 25 l0 (.slice none 0 0) 1 24 Tryz.underlying154 hli hl0 hl1 hl2 rfl (by decide) (.slice (some ⟨g8, 0, none⟩) (q + 1) c8) (q + 1) ((lpVals ls).take q ++ [.slice (some ⟨w7.heap.size, 0, none⟩) 1 1]) rfl HG8.out ⟨g7, 0, none⟩ (L.length - q) c7 ((lpVals ls).drop q) rfl (by rw [HLO.out, Nat.mul_one]) (fun j u hu => HT8.out.cells (g := g7) rfl j u hu) hoo (by unfold maxLen; omega) (by omega) (by omega) ?_; intro v9 w9 hown9 hg9 hnil9 hloc9; obtain ⟨g9, c9, rfl, _, hge9, hlt9⟩ := own_real hown9 (fun e => by have := hnil9.1 e; simp at this); have z9 := hg9.size; have hk9 : g9 = g8 ∨ w8.heap.size = g9 := hloc9.elim (fun e => .inl (Option.some.inj e)) (fun e => .inr (Option.some.inj e).symm); have O9 : Only (fun k => k = go ∨ w6.heap.size ≤ k) w6 w9 := HO8.out.trans (Only.of_grown hg9 (fun k hk => by have h1 : g8 = k := Option.some.inj hk; show k = go ∨ w6.heap.size ≤ k; omega)); have hx9 := own_apart HX8.out hg9 (show w7.heap.size ≠ g8 by omega); have HG9 := Lib.hid hown9; have HX9 := Lib.hid hx9; have HO9 := Lib.hid O9; clear hg9 hnil9 hloc9 hown9 hx9 O9)
                | fail)
              have OA : Only (fun k => k = gn ∨ k = go ∨ wr.heap.size ≤ k) wr w9 := ((HO4.out.mono (fun k hk => .inr (.inr hk))).trans (HO6.out.mono (fun k hk => hk.elim .inl (fun h => .inr (.inr (show wr.heap.size ≤ k by omega)))))).trans (HO9.out.mono (fun k hk => hk.elim (fun h => .inr (.inl h)) (fun h => .inr (.inr (show wr.heap.size ≤ k by omega)))))
              have hG : Gs (w.heap.size + 1) (L.take q ++ L.drop q) gn cn go co (ls.take q ++ ls.drop q) wr := by rw [List.take_append_drop, List.take_append_drop]; exact G2.out
              have hlT : (L.take q ++ L.drop q).length + 1 = q + 1 + (L.length - q) := by simp; omega
              have hyo : ∀ y ∈ ls.take q ++ ls.drop q, w9.ownsRow (w.heap.size + 1) 3 1 (.slice (some ⟨y.g, 0, none⟩) y.xs.length y.c) y.xs.length (intVals y.xs) := fun y hy => by
                rw [List.take_append_drop] at hy
                have hyl := HLT.out y.g (by simp only [List.mem_cons, List.mem_map]; exact .inr (.inr ⟨y, hy, rfl⟩))
                have hnd := G2.out.nd
                rw [List.nodup_cons, List.nodup_cons] at hnd
                have hym := List.mem_map_of_mem (f := Lp.g) hy
                refine own_only (G2.out.each y hy) OA ?_
                rintro (h | h | h)
                · exact hnd.1 (by rw [← h]; simp only [List.mem_cons]; exact .inr hym)
                · exact hnd.2.1 (by rw [← h]; exact hym)
                · omega
              have hN9 := own_only HN6.out HO9.out (show ¬ (g6 = go ∨ w6.heap.size ≤ g6) by omega)
              have e1 : (namesV L).take q ++ [.string nm] ++ (namesV L).drop q = strVals ((L.take q).map Prod.fst) ++ [.string nm] ++ strVals ((L.drop q).map Prod.fst) := by simp [namesV, strVals, List.map_take, List.map_drop]
              have GN := hG.put (nm := nm) (i := (k : Int)) (by rw [List.length_take, List.length_take, HLL.out]) hyo (by rw [hlT, ← e1]; exact hN9) (by rw [hlT, ← lpVals_take, ← lpVals_drop]; exact HG9.out) HX9.out (by omega) (by omega) (by omega) (by omega) (by omega) (by omega)
              have hTl : (T (k + 1)).length = q + 1 + (L.length - q) := by rw [HT1.out]; simp; omega
              have hS : ∀ j, (j = gn ∨ j = go ∨ wr.heap.size ≤ j) → w.heap.size + 1 ≤ j := fun j hj => by omega
              go_roundw
              case rel => exact ⟨k + 1, g6, c6, g9, c9, _, by omega, by go_num, by rw [hTl], by rw [hTl], by rw [HT1.out]; exact GN, bx2.only OA (fun h => by have := hS _ h; omega), OA.below hB2 hB2.size (fun j hj => by have := hS j hj; omega)⟩
              case measure => simp [intOf]; omega
          · have hqi : ¬ (q : Int) < (L.length : Int) := by omega
            have HT1 := Lib.hid (HNX2.out.trans (HNW.out fun h e => absurd h hql))
            have hll : ls.length = L.length := G2.out.len
            have hqls : q ≤ ls.length := by omega
            have hqcn : q ≤ cn := Nat.le_trans hple (own_cap G2.out.n)
            have hqco : q ≤ co := Nat.le_trans hple (own_cap G2.out.o)
            have hgnl := (G2.out.n.lt gn rfl).2
            have hgol := (G2.out.o.lt go rfl).2
            have hgnl' := (G2.out.n.lt gn rfl).1
            have hgol' := (G2.out.o.lt go rfl).1
            have hnego : gn ≠ go := by
              have h1 := G2.out.nd
              rw [List.nodup_cons] at h1
              exact fun e => h1.1 (by rw [e]; simp)
            have hsl1 := fun V => run_tail 33 9 Tryz.underlying33 elemStr17 sizeStr17 V gn L.length cn q hple
            have hsl2 := fun V => run_head 33 9 Tryz.underlying33 elemStr17 sizeStr17 V gn L.length cn q hqcn
            have hsl3 := fun V => run_tail 154 25 Tryz.underlying154 elemLst17 sizeLst17 V go L.length co q hple
            have hsl4 := fun V => run_head 154 25 Tryz.underlying154 elemLst17 sizeLst17 V go L.length co q hqco
            have hln : ((namesV L).drop q).length = L.length - q := by simp [namesV, strVals]
            have hlo : ((lpVals ls).drop q).length = L.length - q := by rw [List.length_drop, lpVals_length, hll]
            have hon : ∀ u ∈ (namesV L).drop q, u.oneCell' = true := fun u hu => by
              have := List.mem_of_mem_drop hu
              simp only [namesV, strVals, List.mem_map] at this
              obtain ⟨_, _, rfl⟩ := this
              rfl
            have hoo : ∀ u ∈ (lpVals ls).drop q, u.oneCell' = true := fun u hu => by
              have := List.mem_of_mem_drop hu
              simp only [lpVals, fl, List.mem_flatMap] at this
              obtain ⟨z, _, hz⟩ := this
              rw [List.mem_singleton.1 hz]
              rfl
            have HLL := Lib.hid hll
            have HLN := Lib.hid hln
            have HLO := Lib.hid hlo
            have HSZ := Lib.hid hszw
            clear hll hln hlo
            have hcut1 := fun (W : World) (h : W.ownsRow (w.heap.size + 1) 9 1 (.slice (some ⟨gn, 0, none⟩) L.length cn) L.length (namesV L)) => cut_news (m := q) h
            have hcut2 := fun (W : World) (h : W.ownsRow (w.heap.size + 1) 25 1 (.slice (some ⟨go, 0, none⟩) L.length co) L.length (lpVals ls)) => cut_news (m := q) h
            generalize (if cn = q then 0 else q) = o1 at *
            generalize (if co = q then 0 else q) = o2 at *
            have HC1 := Lib.hid hcut1
            have HC2 := Lib.hid hcut2
            have a1 := (Below.refl wr.heap.size wr).alloc (Nat.le_refl _) (.cells #[] 9)
            have HA1 := Lib.hid a1
            have HLT := Lib.hid G2.out.lt
            have HAB := Lib.hid (fun (W : World) => show Below W.heap.size W ((W.alloc (.cells #[.int .i64 (k : Int)] 3)).alloc (.cells #[.slice (some ⟨W.heap.size, 0, none⟩) 1 1] 25)) from
              ((Below.refl _ _).alloc (Nat.le_refl _) _).alloc (by simp) _)
            have HLIT := Lib.hid (fun (W : World) => show ∀ j u, [Value.slice (some ⟨W.heap.size, 0, none⟩) 1 1][j]? = some u → ((W.alloc (.cells #[.int .i64 (k : Int)] 3)).alloc (.cells #[.slice (some ⟨W.heap.size, 0, none⟩) 1 1] 25)).cell? ((⟨W.heap.size + 1, 0, none⟩ : Addr).add j) = some u from fun j u hu => by
              have := lit_news (W.alloc (.cells #[.int .i64 (k : Int)] 3)) (.slice (some ⟨W.heap.size, 0, none⟩) 1 1) 25 j u hu
              simpa using this)
            have HXO := Lib.hid (fun (W : World) (hb : w.heap.size + 1 ≤ W.heap.size) => show ((W.alloc (.cells #[.int .i64 (k : Int)] 3)).alloc (.cells #[.slice (some ⟨W.heap.size, 0, none⟩) 1 1] 25)).ownsRow (w.heap.size + 1) 3 1 (.slice (some ⟨W.heap.size, 0, none⟩) 1 1) 1 [.int .i64 (k : Int)] from (own_lit (.int .i64 (k : Int)) hb).alloc _)
            clear a1 hcut1 hcut2
            go_wp2_with (first
              | (at_builtin; refine wpList_append_own_at _ rfl (.tmp 58) (.tmp 61) 33 rfl (w.heap.size + 1) 9 s0 (.string ⟨#[]⟩) 1 16 Tryz.underlying33 hsi hs0 hs1 hs2 rfl (by decide) (.slice (some ⟨wr.heap.size, 0, none⟩) 0 0) 0 [] rfl (empty_own (emp_at rfl) (by omega)) ⟨gn, o1, none⟩ (L.length - q) (cn - q) ((namesV L).drop q) rfl (by rw [HLN.out, Nat.mul_one]) (HC1.out _ (own_keeps G2.out.n HA1.out)) hon (by unfold maxLen; omega) (by omega) (by simp; omega) ?_; intro v4 w4 hown4 hg4 hnil4 hloc4; obtain ⟨g4, c4, rfl, _, hge4, hlt4⟩ := own_real hown4 (fun e => by have := hnil4.1 e; simp at this); rw [Nat.zero_add] at *; rw [List.nil_append] at hown4; have z4 := hg4.size; simp only [World.size_alloc] at z4; have hn4 := own_apart (own_keeps G2.out.n HA1.out) hg4 (show gn ≠ wr.heap.size by omega); have hk4 : g4 = wr.heap.size ∨ wr.heap.size < g4 := hloc4.elim (fun e => .inl (Option.some.inj e)) (fun e => .inr (by have := Option.some.inj e; simp at this; omega)); have O4 : Only (fun k => wr.heap.size ≤ k) wr w4 := (Only.of_below HA1.out).trans (Only.of_grown hg4 (fun k hk => Nat.le_of_eq (show wr.heap.size = k from Option.some.inj hk))); have HN4 := Lib.hid hn4; have HT4 := Lib.hid hown4; have HO4 := Lib.hid O4; clear hg4 hnil4 hloc4 hn4 hown4 O4)
              | (at_builtin; refine wpList_append_own_at _ rfl (.tmp 65) (.tmp 67) 33 rfl (w.heap.size + 1) 9 s0 (.string ⟨#[]⟩) 1 16 Tryz.underlying33 hsi hs0 hs1 hs2 rfl (by decide) (.slice (some ⟨gn, 0, none⟩) q cn) q ((namesV L).take q) rfl ((own_cut HN4.out hple).alloc _) ⟨w4.heap.size, 0, none⟩ 1 1 [.string nm] rfl rfl (oneCell_at _) (oneCell_str _) (by unfold maxLen; omega) (by omega) (by simp; omega) ?_; intro v5 w5 hown5 hg5 hnil5 hloc5; obtain ⟨g5, c5, rfl, _, hge5, hlt5⟩ := own_real hown5 (fun e => by have := hnil5.1 e; simp at this); have z5 := hg5.size; simp only [World.size_alloc] at z5; have hk5 : g5 = gn ∨ w4.heap.size < g5 := hloc5.elim (fun e => .inl (Option.some.inj e)) (fun e => .inr (by have := Option.some.inj e; simp at this; omega)); have ht5 := own_apart (own_keeps HT4.out ((Below.refl w4.heap.size w4).alloc (Nat.le_refl _) (.cells #[.string nm] 9))) hg5 (show g4 ≠ gn by omega); have O5 : Only (fun k => k = gn ∨ w4.heap.size ≤ k) w4 w5 := (Only.of_below ((Below.refl w4.heap.size w4).alloc (Nat.le_refl _) (.cells #[.string nm] 9))).trans (Only.of_grown hg5 (fun k hk => .inl (show gn = k from Option.some.inj hk).symm)); have HN5 := Lib.hid hown5; have HT5 := Lib.hid ht5; have HO5 := Lib.hid O5; clear hg5 hnil5 hloc5 hown5 ht5 O5)
              | (at_builtin; refine wpList_append_own_at _ rfl (.tmp 68) (.tmp 69) 33 rfl (w.heap.size + 1) 9 s0 (.string ⟨#[]⟩) 1 16 Tryz.underlying33 hsi hs0 hs1 hs2 rfl (by decide) (.slice (some ⟨g5, 0, none⟩) (q + 1) c5) (q + 1) ((namesV L).take q ++ [.string nm]) rfl HN5.out ⟨g4, 0, none⟩ (L.length - q) c4 ((namesV L).drop q) rfl (by rw [HLN.out, Nat.mul_one]) (fun j u hu => HT5.out.cells (g := g4) rfl j u hu) hon (by unfold maxLen; omega) (by omega) (by omega) ?_; intro v6 w6 hown6 hg6 hnil6 hloc6; obtain ⟨g6, c6, rfl, _, hge6, hlt6⟩ := own_real hown6 (fun e => by have := hnil6.1 e; simp at this); have z6 := hg6.size; have hk6 : g6 = g5 ∨ w5.heap.size = g6 := hloc6.elim (fun e => .inl (Option.some.inj e)) (fun e => .inr (Option.some.inj e).symm); have O6 : Only (fun k => k = gn ∨ w4.heap.size ≤ k) w4 w6 := HO5.out.trans (Only.of_grown hg6 (fun k hk => by have h1 : g5 = k := Option.some.inj hk; show k = gn ∨ w4.heap.size ≤ k; omega)); have ho6 := own_only (own_only G2.out.o HO4.out (show ¬ wr.heap.size ≤ go by omega)) O6 (show ¬ (go = gn ∨ w4.heap.size ≤ go) by omega); have HN6 := Lib.hid hown6; have HG6 := Lib.hid ho6; have HO6 := Lib.hid O6; clear hg6 hnil6 hloc6 hown6 ho6 O6)
              | (at_builtin; refine wpList_append_own_at _ rfl (.tmp 71) (.tmp 74) 154 rfl (w.heap.size + 1) 25 l0 (.slice none 0 0) 1 24 Tryz.underlying154 hli hl0 hl1 hl2 rfl (by decide) (.slice (some ⟨w6.heap.size, 0, none⟩) 0 0) 0 [] rfl (empty_own (emp_at rfl) (by omega)) ⟨go, o2, none⟩ (L.length - q) (co - q) ((lpVals ls).drop q) rfl (by rw [HLO.out, Nat.mul_one]) (HC2.out _ (own_keeps HG6.out ((Below.refl w6.heap.size w6).alloc (Nat.le_refl _) (.cells #[] 25)))) hoo (by unfold maxLen; omega) (by omega) (by simp; omega) ?_; intro v7 w7 hown7 hg7 hnil7 hloc7; obtain ⟨g7, c7, rfl, _, hge7, hlt7⟩ := own_real hown7 (fun e => by have := hnil7.1 e; simp at this); rw [Nat.zero_add] at *; rw [List.nil_append] at hown7; have z7 := hg7.size; simp only [World.size_alloc] at z7; have ho7 := own_apart (own_keeps HG6.out ((Below.refl w6.heap.size w6).alloc (Nat.le_refl _) (.cells #[] 25))) hg7 (show go ≠ w6.heap.size by omega); have hk7 : g7 = w6.heap.size ∨ w6.heap.size < g7 := hloc7.elim (fun e => .inl (Option.some.inj e)) (fun e => .inr (by have := Option.some.inj e; simp at this; omega)); have O7 : Only (fun k => k = go ∨ w6.heap.size ≤ k) w6 w7 := (Only.of_below ((Below.refl w6.heap.size w6).alloc (Nat.le_refl _) (.cells #[] 25))).trans (Only.of_grown hg7 (fun k hk => .inr (Nat.le_of_eq (show w6.heap.size = k from Option.some.inj hk)))); have HG7 := Lib.hid ho7; have HT7 := Lib.hid hown7; have HO7 := Lib.hid O7; clear hg7 hnil7 hloc7 hown7 ho7 O7)
              | (at_builtin; refine wpList_append_own_at _ rfl (.tmp 78) (.tmp 81) 154 rfl (w.heap.size + 1) 25 l0 (.slice none 0 0) 1 24 Tryz.underlying154 hli hl0 hl1 hl2 rfl (by decide) (.slice (some ⟨go, 0, none⟩) q co) q ((lpVals ls).take q) rfl (((own_cut HG7.out hple).alloc _).alloc _) ⟨w7.heap.size + 1, 0, none⟩ 1 1 [.slice (some ⟨w7.heap.size, 0, none⟩) 1 1] rfl rfl (HLIT.out w7) (lit_one _ _ _) (by unfold maxLen; omega) (by omega) (by simp; omega) ?_; intro v8 w8 hown8 hg8 hnil8 hloc8; obtain ⟨g8, c8, rfl, _, hge8, hlt8⟩ := own_real hown8 (fun e => by have := hnil8.1 e; simp at this); have z8 := hg8.size; simp only [World.size_alloc] at z8; have hk8 : g8 = go ∨ w7.heap.size + 1 < g8 := hloc8.elim (fun e => .inl (Option.some.inj e)) (fun e => .inr (by have := Option.some.inj e; simp at this; omega)); have ht8 := own_apart (own_keeps HT7.out (HAB.out w7)) hg8 (show g7 ≠ go by omega); have hx8 := own_apart (HXO.out w7 (by omega)) hg8 (show w7.heap.size ≠ go by omega); have O8 : Only (fun k => k = go ∨ w6.heap.size ≤ k) w6 w8 := HO7.out.trans ((Only.of_below (HAB.out w7)).trans (Only.of_grown hg8 (fun k hk => .inl (show go = k from Option.some.inj hk).symm))); have HG8 := Lib.hid hown8; have HT8 := Lib.hid ht8; have HX8 := Lib.hid hx8; have HO8 := Lib.hid O8; clear hg8 hnil8 hloc8 hown8 ht8 hx8 O8)
              | (at_builtin; refine wpList_append_own_at _ rfl (.tmp 82) (.tmp 83) 154 rfl (w.heap.size + 1) 25 l0 (.slice none 0 0) 1 24 Tryz.underlying154 hli hl0 hl1 hl2 rfl (by decide) (.slice (some ⟨g8, 0, none⟩) (q + 1) c8) (q + 1) ((lpVals ls).take q ++ [.slice (some ⟨w7.heap.size, 0, none⟩) 1 1]) rfl HG8.out ⟨g7, 0, none⟩ (L.length - q) c7 ((lpVals ls).drop q) rfl (by rw [HLO.out, Nat.mul_one]) (fun j u hu => HT8.out.cells (g := g7) rfl j u hu) hoo (by unfold maxLen; omega) (by omega) (by omega) ?_; intro v9 w9 hown9 hg9 hnil9 hloc9; obtain ⟨g9, c9, rfl, _, hge9, hlt9⟩ := own_real hown9 (fun e => by have := hnil9.1 e; simp at this); have z9 := hg9.size; have hk9 : g9 = g8 ∨ w8.heap.size = g9 := hloc9.elim (fun e => .inl (Option.some.inj e)) (fun e => .inr (Option.some.inj e).symm); have O9 : Only (fun k => k = go ∨ w6.heap.size ≤ k) w6 w9 := HO8.out.trans (Only.of_grown hg9 (fun k hk => by have h1 : g8 = k := Option.some.inj hk; show k = go ∨ w6.heap.size ≤ k; omega)); have hx9 := own_apart HX8.out hg9 (show w7.heap.size ≠ g8 by omega); have HG9 := Lib.hid hown9; have HX9 := Lib.hid hx9; have HO9 := Lib.hid O9; clear hg9 hnil9 hloc9 hown9 hx9 O9)
              | fail)
            have OA : Only (fun k => k = gn ∨ k = go ∨ wr.heap.size ≤ k) wr w9 := ((HO4.out.mono (fun k hk => .inr (.inr hk))).trans (HO6.out.mono (fun k hk => hk.elim .inl (fun h => .inr (.inr (show wr.heap.size ≤ k by omega)))))).trans (HO9.out.mono (fun k hk => hk.elim (fun h => .inr (.inl h)) (fun h => .inr (.inr (show wr.heap.size ≤ k by omega)))))
            have hG : Gs (w.heap.size + 1) (L.take q ++ L.drop q) gn cn go co (ls.take q ++ ls.drop q) wr := by rw [List.take_append_drop, List.take_append_drop]; exact G2.out
            have hlT : (L.take q ++ L.drop q).length + 1 = q + 1 + (L.length - q) := by simp; omega
            have hyo : ∀ y ∈ ls.take q ++ ls.drop q, w9.ownsRow (w.heap.size + 1) 3 1 (.slice (some ⟨y.g, 0, none⟩) y.xs.length y.c) y.xs.length (intVals y.xs) := fun y hy => by
              rw [List.take_append_drop] at hy
              have hyl := HLT.out y.g (by simp only [List.mem_cons, List.mem_map]; exact .inr (.inr ⟨y, hy, rfl⟩))
              have hnd := G2.out.nd
              rw [List.nodup_cons, List.nodup_cons] at hnd
              have hym := List.mem_map_of_mem (f := Lp.g) hy
              refine own_only (G2.out.each y hy) OA ?_
              rintro (h | h | h)
              · exact hnd.1 (by rw [← h]; simp only [List.mem_cons]; exact .inr hym)
              · exact hnd.2.1 (by rw [← h]; exact hym)
              · omega
            have hN9 := own_only HN6.out HO9.out (show ¬ (g6 = go ∨ w6.heap.size ≤ g6) by omega)
            have e1 : (namesV L).take q ++ [.string nm] ++ (namesV L).drop q = strVals ((L.take q).map Prod.fst) ++ [.string nm] ++ strVals ((L.drop q).map Prod.fst) := by simp [namesV, strVals, List.map_take, List.map_drop]
            have GN := hG.put (nm := nm) (i := (k : Int)) (by rw [List.length_take, List.length_take, HLL.out]) hyo (by rw [hlT, ← e1]; exact hN9) (by rw [hlT, ← lpVals_take, ← lpVals_drop]; exact HG9.out) HX9.out (by omega) (by omega) (by omega) (by omega) (by omega) (by omega)
            have hTl : (T (k + 1)).length = q + 1 + (L.length - q) := by rw [HT1.out]; simp; omega
            have hS : ∀ j, (j = gn ∨ j = go ∨ wr.heap.size ≤ j) → w.heap.size + 1 ≤ j := fun j hj => by omega
            go_roundw
            case rel => exact ⟨k + 1, g6, c6, g9, c9, _, by omega, by go_num, by rw [hTl], by rw [hTl], by rw [HT1.out]; exact GN, bx2.only OA (fun h => by have := hS _ h; omega), OA.below hB2 hB2.size (fun j hj => by have := hS j hj; omega)⟩
            case measure => simp [intOf]; omega
    · have hkn : k = ns.length := by omega
      subst hkn
      go_wp2
      go_ret
      exact ⟨gn, cn, go, co, ls, rfl, G, hB⟩
end Go.Proofs.YtglcailcdcpadaaGreatDoor
