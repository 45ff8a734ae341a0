/-
  The program's SizeOf and DepthOf.
-/
import Derived.Test.YtplchhahjmoodaaDoorZ26
import Derived.Test.YtplchhahjmoodaaDoorZ15
import Derived.Test.YtplchhahjmoodaaDoorZ18
namespace Go.Proofs.YtplchhahjmoodaaDoor
open Go Go.RowKit Go.ChangeAt Go.ChangeShapes Go.WideShapes

theorem num10Info : (Tryd.prog.info? 3).map (fun i => (i.zero, i.size, i.bytes)) = some (some (.int .i64 0), 1, 8) := by kernel_rfl
/-- A tree that the program may walk over: it lies in the world, all its nodes in different places of plain cells, and it is not too large. -/
structure Solid (w : World) (t : Ft) : Prop where
  in_ : t.In w w.heap.size
  nd : t.places.Nodup
  plain : ∀ p ∈ t.places, Plain w p.block
  small : t.er.size ≤ 1099511627776
theorem Solid.below {w w' : World} {t : Ft} (h : Solid w t) (hb : Below w.heap.size w w') : Solid w' t := ⟨h.in_.to hb, h.nd, fun p hp => (h.plain p hp).below hb (h.plain p hp).lt, h.small⟩
mutual
theorem Ft.Own.plain {w : World} : ∀ (t : Ft) {lo hi : Nat}, t.Own w lo hi → ∀ p ∈ t.places, Plain w p.block
  | .mk _ _ _ _ a cap pp, lo, hi, h, p, hp => by
    rw [Ft.Own] at h
    rw [Ft.places] at hp
    obtain ⟨b, rfl, _, h2, h3⟩ := h
    rcases List.mem_append.1 hp with hp | hp
    · obtain ⟨i, _, rfl⟩ := List.mem_map.1 hp
      exact Plain.owned h2
    · exact Ft.Owns.plain pp h3 p hp
theorem Ft.Owns.plain {w : World} : ∀ (ts : List Ft) {lo hi : Nat}, Ft.Owns w lo hi ts → ∀ p ∈ Ft.placess ts, Plain w p.block
  | [], _, _, _, p, hp => by cases hp
  | t :: ts, lo, hi, h, p, hp => by
    rw [Ft.Owns] at h
    rw [Ft.placess] at hp
    obtain ⟨m, h1, h2⟩ := h
    rcases List.mem_append.1 hp with hp | hp
    · exact Ft.Own.plain t h1 p hp
    · exact Ft.Owns.plain ts h2 p hp
end
theorem Ft.Own.solid {w : World} {t : Ft} {lo hi : Nat} (h : t.Own w lo hi) (hh : hi ≤ w.heap.size) (hs : t.er.size ≤ 1099511627776) : Solid w t :=
  ⟨h.in_ t hh, (h.lie t).1, h.plain t, hs⟩
theorem nodes_size : ∀ (t : Ft) (p : Addr), ∀ x ∈ t.nodes p, x.2.er.size ≤ t.er.size := by
  apply Ft.ind (P := fun t => ∀ (p : Addr), ∀ x ∈ t.nodes p, x.2.er.size ≤ t.er.size)
  intro t ih p x hx
  rcases Ft.nodes_mem.1 hx with rfl | ⟨z, hz, hxz⟩
  · exact Nat.le_refl _
  · obtain ⟨i, hi, rfl⟩ := kids_mem hz
    have h1 : x.2.er.size ≤ (t.args[i]).er.size := ih _ (List.getElem_mem hi) _ x hxz
    have h2 : (t.args[i]).er.size ≤ Fm.sizes (t.args.map Ft.er) := Fm.size_mem (t.args.map Ft.er) _ (List.mem_map.2 ⟨_, List.getElem_mem hi, rfl⟩)
    have h3 := t.size_er
    omega
/-- The root, laid into a box of its own. -/
structure Rooted (U : List Loc) (r : Loc) (W : World) : Prop where
  first : r ∈ U
  closed : ∀ x ∈ U, ∀ y ∈ kids x, y ∈ U
  nd : (U.map Prod.fst).Nodup
  ground : Ground1 U W
theorem Solid.rooted {w : World} {t : Ft} (h : Solid w t) : Rooted (t.nodes ⟨w.heap.size, 0, none⟩) (⟨w.heap.size, 0, none⟩, t) (w.alloc (.cells #[.int .i64 t.kd, .int .i64 t.k, .int .i64 t.u, .int .i64 t.v, .slice t.a t.args.length t.cap] 26)) := by
  have hb : Below w.heap.size w (w.alloc (.cells #[.int .i64 t.kd, .int .i64 t.k, .int .i64 t.u, .int .i64 t.v, .slice t.a t.args.length t.cap] 26)) := (Below.refl _ _).alloc (Nat.le_refl _) _
  refine ⟨Ft.nodes_self _ _, Ft.nodes_closed t _, Ft.nodes_nodup (List.nodup_cons.2 ⟨fun hp => ?_, h.nd⟩), ⟨nodes_ok t _ ⟨by simp, ⟨_, _, rfl, ⟨?_, ?_, ?_, ?_, ?_⟩⟩, h.in_.to hb, ⟨_, _, (MapKept.heap_alloc w _).1⟩, fun p hp => (h.plain p hp).below hb (h.plain p hp).lt⟩, fun x hx => ?_⟩⟩
  · have := (h.plain _ hp).lt
    simp at this
  all_goals try (simp [go_sem]; done)
  have h1 := nodes_size t _ x hx
  have h2 := Fm.length_sizes (x.2.args.map Ft.er)
  have h3 := x.2.size_er
  have h4 := h.small
  rw [List.length_map] at h2
  omega

def natVals (ws : List Nat) : List Value := intVals (ws.map fun (n : Nat) => (n : Int))
theorem natVals_length (ws : List Nat) : (natVals ws).length = ws.length := by simp [natVals, intVals_length]
theorem natVals_snoc (ws : List Nat) (n : Nat) : natVals (ws ++ [n]) = natVals ws ++ [.int .i64 (n : Int)] := by rw [natVals, List.map_append, List.map_cons, List.map_nil, intVals_snoc]; rfl
theorem natVals_at (ws : List Nat) (k : Nat) (h : k < ws.length) : (natVals ws)[k]? = some (.int .i64 ((ws[k] : Nat) : Int)) := by
  rw [natVals, intVals_at _ k (by simpa using h)]
  simp
def sliceLen : Value → Nat | .slice _ n _ => n | _ => 0
def WidthsEnd (t : Ft) (w : World) (e : Ending) (w' : World) : Prop := ∃ (a : Option Addr) (c : Nat) (ws : List Nat), e = .returned (.tuple #[.slice a ws.length c, .bool true]) ∧ ws.sum = t.er.size ∧ ws.length = t.er.depth ∧ w'.ownsRow w.heap.size 3 1 (.slice a ws.length c) ws.length (natVals ws) ∧ Below w.heap.size w w'

set_option maxHeartbeats 1600000 in
theorem implWidthsOf (t : Ft) (w : World) (h : Solid w t) : Calls Tryd.prog 106 #[t.val] w (WidthsEnd t w) := by
  obtain ⟨i0, hi, hz0, hz1, hz2⟩ := info_parts num10Info
  have hmm := @run_makeMap Tryd.prog
  obtain ⟨hfirst, hc, hnd, hG⟩ := h.rooted
  have hul := Ft.nodes_length ⟨w.heap.size, 0, none⟩ t
  have hsm := h.small
  have hds := Fm.depth_le_size t.er
  have hb0 : Below w.heap.size w (w.alloc (.cells #[.int .i64 t.kd, .int .i64 t.k, .int .i64 t.u, .int .i64 t.v, .slice t.a t.args.length t.cap] 26)) := (Below.refl _ _).alloc (Nat.le_refl _) _
  have hnin := fun (L : List Loc) (hL : ∀ x ∈ L, ∀ y ∈ kids x, y ∈ L) => nodes_in hL t ⟨w.heap.size, 0, none⟩
  have hlv0 : Lv (t.nodes ⟨w.heap.size, 0, none⟩) [(⟨w.heap.size, 0, none⟩, t)] := ⟨fun x hx => by rw [List.mem_singleton.1 hx]; exact hfirst, by
    have h1 : ((⟨w.heap.size, 0, none⟩ : Addr) :: t.places).Nodup := (Ft.nodes_perm _ t).nodup_iff.1 hnd
    simpa [pls] using h1⟩
  generalize t.nodes ⟨w.heap.size, 0, none⟩ = U at *
  have HN := Lib.hid hnin
  have HF := Lib.hid hfirst
  have HC := Lib.hid hc
  have HND := Lib.hid hnd
  have HG := Lib.hid hG
  have HUL := Lib.hid hul
  have HLV := Lib.hid hlv0
  have HDS := Lib.hid hds
  have HSM := Lib.hid hsm
  clear h hfirst hc hnd hG hul hnin hlv0 hds hsm
  go_enter Tryd.func106, Tryd.ntmps106
  go_wp2_with fail
  obtain ⟨W0, hW0⟩ : ∃ W, w.alloc (.cells #[.int .i64 t.kd, .int .i64 t.k, .int .i64 t.u, .int .i64 t.v, .slice t.a t.args.length t.cap] 26) = W := ⟨_, rfl⟩
  have hs0 : W0.heap.size = w.heap.size + 1 := by rw [← hW0]; simp
  rw [hW0] at hb0 HG ⊢
  clear hW0
  have HB0 := Lib.hid hb0
  clear hb0
  refine (implReached U (⟨w.heap.size, 0, none⟩, t) _ HF.out HC.out HND.out HG.out (by rw [HUL.out]; exact HSM.out)).mono ?_
  rintro e w1 ⟨L, hmet, a1, c1, rfl, _, _, hb1⟩
  have hLU : U.length ≤ L.length := nodup_le (nodup_of_map HND.out) (HN.out L hmet.closed hmet.first)
  have hP : t.er.depth ≤ L.length := by have := HUL.out; have := HDS.out; omega
  have HP := Lib.hid hP
  have hLl : L.length ≤ 1099511627776 := by
    have h1 := nodup_le (nodup_of_map hmet.nd) hmet.sub
    have h2 := HUL.out
    have h3 := HSM.out
    omega
  rw [ptrs_length]
  generalize L.length = P at *
  clear hLU hmet hP
  have hok : PtrOk (blocksOf U) (.pointer (some ⟨w.heap.size, 0, none⟩)) := ⟨_, rfl, (⟨w.heap.size, 0, none⟩, t), HF.out, rfl⟩
  have hz1' := hb1.size
  have hbA : Below W0.heap.size W0 (w1.alloc (.map #[] 0)) := hb1.alloc hz1' _
  obtain ⟨W3, hst, hp3, hg3⟩ := (PM.made w1 (PtrOk (blocksOf U)) one64).store (key_fm U) (HG.out.below hbA).plain Tryd.underlying157 hok (by simp)
  have hb3 : Below W0.heap.size W0 W3 := below_grown hbA hg3 (by simp; omega) (fun k hk => by have := Option.some.inj hk; omega)
  have HP3 := Lib.hid hp3
  have HB3 := Lib.hid hb3
  clear hp3 hg3 hbA hok hb1
  go_wp2_with fail
  go_loopw [4, 6] (fun v g wr => ∃ (ws : List Nat) (R : List Loc) (b : Nat), g = .map (some b) ∧ wr.ownsRow W0.heap.size 3 1 v ws.length (natVals ws) ∧ PM wr b (PtrOk (blocksOf U)) (ptrs R) one64 ∧ Lv U R ∧ (∀ k, v.ownBlock = some k → k ≠ b) ∧
      ws.sum + tot R = t.er.size ∧ ws.length + dep R = t.er.depth ∧ Below W0.heap.size W0 wr) (fun v _ _ => t.er.depth - sliceLen v)
  case atStart => exact ⟨[], [(⟨w.heap.size, 0, none⟩, t)], w1.heap.size, rfl, ⟨rfl, .inl ⟨rfl, rfl⟩⟩, HP3.out, HLV.out, (fun k hk => by cases hk), (by simp [tot, Fm.sizes]), (by simp [dep, Fm.depths]), HB3.out⟩
  case round =>
    obtain ⟨ws, R, b, rfl, hown, hpm, hlv, hoff, hsum, hdep, hbw⟩ := hrel
    obtain ⟨va, vc, rfl, _⟩ := rc_shape hown
    have hl := fun ty => hpm.len (P := Tryd.prog) Tryd.underlying157 ty
    simp only [ptrs_length] at hl
    have hbl := hpm.lt
    have hzw := hbw.size
    have Hown := Lib.hid hown
    have Hpm := Lib.hid hpm
    have Hlv := Lib.hid hlv
    have Hoff := Lib.hid hoff
    have Hsum := Lib.hid hsum
    have Hdep := Lib.hid hdep
    clear hown hpm hlv hoff hsum hdep
    by_cases hR : R = []
    · have hR0 : R.length = 0 := by rw [hR]; rfl
      have HR := Lib.hid hR
      rw [hR0] at hl
      clear hR hR0
      go_wp2_with fail
      have hs := Hsum.out
      have hd := Hdep.out
      have ho := Hown.out
      rw [HR.out] at hs hd
      have hfin : Below w.heap.size w wr := HB0.out.trans (hbw.mono (by omega))
      exact bodyPost_ret (v := .tuple #[.slice va ws.length vc, .bool true]) (by simp [results, Tryd.results106, go_sem]) rfl ⟨va, vc, ws, rfl, by simpa [tot, Fm.sizes] using hs, by simpa [dep, Fm.depths] using hd, own_base ho (by omega), hfin⟩
    · have hR0 : 0 < R.length := List.length_pos_iff.2 hR
      have hdk := dep_kids R hR
      have htk := tot_kids R
      have hlt : ws.length < P := by have := HP.out; have := Hdep.out; omega
      have hne : ((ws.length : Int) == (P : Int)) = false := by
        rw [beq_eq_false_iff_ne]
        omega
      have hRl : R.length ≤ 1099511627776 := by have := Hsum.out; have := HSM.out; omega
      have Hdk := Lib.hid hdk
      have Htk := Lib.hid htk
      clear hR hdk htk
      go_wp2_with fail
      refine (implWidth b (ptrs R) _ Hpm.out (by rw [ptrs_length]; exact hRl)).mono ?_
      rintro e w4 ⟨rfl, hb4⟩
      rw [ptrs_length]
      have hz4 := hb4.size
      have Hown4 := Lib.hid (own_keeps Hown.out hb4)
      have Hpm4 := Lib.hid (Hpm.out.below hb4)
      have hbw4 := hbw.trans (hb4.mono hzw)
      clear hne hl hb4 hbw
      go_wp2_with (at_builtin; refine wpList_append_own_at _ rfl (.tmp 20) (.tmp 23) 35 rfl W0.heap.size 3 i0 (.int .i64 0) 1 8 Tryd.underlying35 hi hz0 hz1 hz2 rfl (by decide) _ ws.length _ rfl (Hown4.out.alloc _) ⟨w4.heap.size, 0, none⟩ 1 1 [.int .i64 (R.length : Int)] rfl rfl (oneCell_at _) (oneCell_int _) (by unfold maxLen; omega) (by omega) (by simp; omega) ?_; intro v5 w5 hown5 hg5 _ hloc5)
      have hb45 : Below w4.heap.size w4 (w4.alloc (.cells #[.int .i64 (R.length : Int)] 3)) := (Below.refl _ _).alloc (Nat.le_refl _) _
      have hpm5 := (Hpm4.out.below hb45).block (hg5.block b (Hpm4.out.below hb45).lt (fun e => Hoff.out b e.symm rfl))
      have hbw5 : Below W0.heap.size W0 w5 := below_grown (hbw4.trans (hb45.mono (by omega))) hg5 (by simp; omega) (fun k hk => (Hown4.out.lt k hk).1)
      obtain ⟨va5, vc5, rfl, _⟩ := rc_shape hown5
      have hz5 := hg5.size
      simp at hz5
      have Hown5 := Lib.hid hown5
      have Hloc5 := Lib.hid hloc5
      have hl5 := (hown5.lt)
      have Hl5 := Lib.hid hl5
      clear hown5 hg5 hloc5 hb45 hl5
      go_wp2_with fail
      refine (implBelow U R b _ hpm5 Hlv.out HC.out HND.out (HG.out.below hbw5)).mono ?_
      rintro e w6 ⟨A, Q, rfl, hperm, hpm6, hA, hb6⟩
      have Hown6 := Lib.hid (own_keeps Hown5.out hb6)
      have hbw6 := hbw5.trans (hb6.mono hbw5.size)
      have Hperm := Lib.hid hperm
      have Hpm6 := Lib.hid hpm6
      clear hperm hpm6 hpm5
      go_wp2_with fail
      go_roundw
      case rel =>
        have hpk : (R.flatMap kids).Perm (Q.flatMap kids) := Hperm.out.flatMap_right _
        refine ⟨ws ++ [R.length], Q.flatMap kids, A, rfl, ?_, Hpm6.out, (Hlv.out.next HC.out).perm hpk, fun k hk => ?_, ?_, ?_, hbw6⟩
        · rw [natVals_snoc, List.length_append, List.length_singleton]
          exact Hown6.out
        · have := (Hl5.out k hk).2
          omega
        · rw [List.sum_append, ← tot_perm hpk]
          have := Hsum.out
          have := Htk.out
          simp
          omega
        · rw [List.length_append, List.length_singleton, ← dep_perm hpk]
          have := Hdep.out
          have := Hdk.out
          omega
      case measure =>
        have := Hdep.out
        have := Hdk.out
        simp [sliceLen]
        omega

set_option maxHeartbeats 800000 in
theorem implSizeOf (t : Ft) (w : World) (h : Solid w t) : Calls Tryd.prog 85 #[t.val] w (GaveB (.int .i64 t.er.size) w) := by
  have hb0 : ∀ c e, Below w.heap.size w (w.alloc (.cells c e)) := fun c e => (Below.refl _ _).alloc (Nat.le_refl _) _
  have HS := Lib.hid (fun c e => h.below (hb0 c e))
  have hsm := h.small
  have HB0 := Lib.hid hb0
  clear h hb0
  go_enter Tryd.func85, Tryd.ntmps85
  go_wp2_with fail
  refine (implWidthsOf t _ (HS.out _ _)).mono ?_
  rintro e w1 ⟨a, c, ws, rfl, hsum, hdep, hown, hb1⟩
  have hwl : ws.length ≤ 1099511627776 := by have := Fm.depth_le_size t.er; omega
  have hB : Below w.heap.size w w1 := (HB0.out _ _).trans (hb1.mono (by simp))
  have hrow : Row w1 w1.heap.size a (natVals ws) := Row.owned hown
  have hpre : ∀ k, (ws.take k).sum ≤ ws.sum := fun k => by
    have := congrArg List.sum (List.take_append_drop k ws)
    rw [List.sum_append] at this
    omega
  rw [← hsum] at hsm
  have HPRE := Lib.hid hpre
  have HSUM := Lib.hid hsum
  clear hown hpre hsum hb1 hdep
  go_wp2_with fail
  go_loopw [5, 17] (fun n i wr => ∃ k : Nat, k ≤ ws.length ∧ i = .int .i64 k ∧ n = .int .i64 (((ws.take k).sum : Nat) : Int) ∧ Row wr wr.heap.size a (natVals ws) ∧ Below w.heap.size w wr) (fun _ i _ => ws.length - (intOf i).toNat)
  case atStart => exact ⟨0, Nat.zero_le _, rfl, rfl, hrow, hB⟩
  case round =>
    clear hrow hB
    obtain ⟨k, hk, rfl, rfl, hrow, hB⟩ := hrel
    by_cases hlt : k < ws.length
    · obtain ⟨b, o, rfl, hbW, hcell⟩ := hrow k _ (natVals_at ws k hlt)
      have hnx : (ws.take (k + 1)).sum = (ws.take k).sum + ws[k] := by rw [take_next ws k hlt, List.sum_append]; simp
      have h1 := HPRE.out (k + 1)
      rw [hnx] at h1
      have HNX := Lib.hid hnx
      have HROW := Lib.hid hrow
      clear hnx hrow
      generalize ws[k] = y at *
      generalize (ws.take k).sum = m at *
      go_wp2_with fail
      refine (implCountBoth m y _ (by omega)).mono ?_
      rintro e w2 ⟨rfl, rfl⟩
      go_wp2_with fail
      go_roundw
      case rel => exact ⟨k + 1, by omega, by go_num, by rw [HNX.out]; go_num, HROW.out, hB⟩
      case measure => simp [intOf]; omega
    · obtain rfl : k = ws.length := by omega
      rw [List.take_length]
      go_wp2_with fail
      go_ret
      exact ⟨congrArg (fun n : Nat => Ending.returned (.int .i64 (n : Int))) HSUM.out, hB⟩

set_option maxHeartbeats 800000 in
theorem implDepthOf (t : Ft) (w : World) (h : Solid w t) : Calls Tryd.prog 86 #[t.val] w (GaveB (.int .i64 t.er.depth) w) := by
  have hb0 : ∀ c e, Below w.heap.size w (w.alloc (.cells c e)) := fun c e => (Below.refl _ _).alloc (Nat.le_refl _) _
  have HS := Lib.hid (fun c e => h.below (hb0 c e))
  have HB0 := Lib.hid hb0
  clear h hb0
  go_enter Tryd.func86, Tryd.ntmps86
  go_wp2_with fail
  refine (implWidthsOf t _ (HS.out _ _)).mono ?_
  rintro e w1 ⟨a, c, ws, rfl, _, hdep, _, hb1⟩
  have hB : Below w.heap.size w w1 := (HB0.out _ _).trans (hb1.mono (by simp))
  have HDEP := Lib.hid hdep
  clear hb1 hdep
  go_wp2_with fail
  go_ret
  exact ⟨congrArg (fun n : Nat => Ending.returned (.int .i64 (n : Int))) HDEP.out, hB⟩
end Go.Proofs.YtplchhahjmoodaaDoor
