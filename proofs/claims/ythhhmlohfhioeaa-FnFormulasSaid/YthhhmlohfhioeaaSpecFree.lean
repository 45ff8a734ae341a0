/-
  The model's marking of the free logic variables. (Printed by wip/tools/gen_spec_free.py.)
-/
import Derived.Test.YthhhmlohfhioeaaSpecHas
import Derived.Test.YthhhmlohfhioeaaSpecForm
import Derived.Test.YthhhmlohfhioeaaFreeParts
import Derived.Test.YthhhmlohfhioeaaScopes
import Derived.Test.YthhhmlohfhioeaaBoxes
import Derived.Test.YthhhmlohfhioeaaAppendRow
import Derived.Deep.RegionHeld3
import Derived.Deep.RegionLaw
namespace Go.Proofs.Ythhhmlohfhioeaa
open Go Go.RowKit Go.ChangeAt Go.ChangeShapes Go.WideShapes

theorem intVals_onef (l : List Int) : ∀ u ∈ intVals l, u.oneCell' = true := by
  intro u hu
  obtain ⟨x, _, rfl⟩ := List.mem_map.1 hu
  rfl
theorem Fm.depth_mem : ∀ (ts : List Fm) (x : Fm), x ∈ ts → x.depth ≤ Fm.depths ts
  | [], _, h => by cases h
  | t :: ts, x, h => by
    rw [show Fm.depths (t :: ts) = max t.depth (Fm.depths ts) from rfl]
    rcases List.mem_cons.1 h with rfl | h
    · omega
    · have := Fm.depth_mem ts x h
      omega
/-- One mark more, if it is asked. -/
def mark1 (bs : List Int) (u : Int) (f : B4) : B4 := if (0 ≤ u ∧ u ≤ 3) ∧ u ∉ bs then f.put u else f
theorem mark1_get (bs : List Int) (u j : Int) (f : B4) (hj : 0 ≤ j ∧ j < 4) : (mark1 bs u f).get j = (f.get j || (!decide (j ∈ bs) && decide (j = u))) := by
  unfold mark1
  by_cases h : (0 ≤ u ∧ u ≤ 3) ∧ u ∉ bs
  · rw [if_pos h, B4.get_put f u j hj]
    by_cases e : u = j
    · subst e; simp [h.2]
    · have e' : ¬ j = u := fun q => e q.symm
      simp [e, e']
  · rw [if_neg h]
    by_cases e : j = u
    · subst e
      have : j ∈ bs := Classical.byContradiction fun q => h ⟨⟨hj.1, by omega⟩, q⟩
      simp [this]
    · simp [e]
/-- What is bound in the parts. -/
def boundIn (kd u : Int) (bs : List Int) : List Int := if kd = 11 ∨ kd = 12 then bs ++ [u] else bs
def markN (kd u v : Int) (bs : List Int) (f : B4) : B4 := if kd = 11 ∨ kd = 12 then f else if usesF kd = 0 then f else if usesF kd = 1 then mark1 bs u f else mark1 bs v (mark1 bs u f)
theorem boundIn_mem (kd u j : Int) (bs : List Int) : decide (j ∈ boundIn kd u bs) = (decide (j ∈ bs) || (isB kd && decide (u = j))) := by
  unfold boundIn isB
  by_cases h : kd = 11 ∨ kd = 12
  · rw [if_pos h]
    by_cases e : u = j
    · subst e; simp [h]
    · have e' : ¬ j = u := fun q => e q.symm
      simp [h, e, e']
  · rw [if_neg h]
    simp [h]
theorem markN_get (kd u v j : Int) (bs : List Int) (f : B4) (hj : 0 ≤ j ∧ j < 4) : (markN kd u v bs f).get j = (f.get j || (!decide (j ∈ bs) && decide (j ∈ usedL kd u v))) := by
  unfold markN
  by_cases h : kd = 11 ∨ kd = 12
  · rw [if_pos h, show usedL kd u v = [] from by unfold usedL; rw [if_neg (by omega), if_neg (by omega)]]
    simp
  · rw [if_neg h]
    by_cases h5 : kd = 5 ∨ kd = 6 ∨ kd = 7
    · rw [show usesF kd = 2 from by unfold usesF; rw [if_neg (by omega), if_pos h5], show usedL kd u v = [u, v] from by unfold usedL; rw [if_neg (by omega), if_pos h5], if_neg (by omega), if_neg (by omega), mark1_get _ _ _ _ hj, mark1_get _ _ _ _ hj]
      simp only [List.mem_cons, List.not_mem_nil, or_false, Bool.decide_or]
      cases f.get j <;> cases decide (j ∈ bs) <;> simp
    · by_cases h2 : kd = 2 ∨ kd = 3 ∨ kd = 4
      · rw [show usesF kd = 1 from by unfold usesF; rw [if_pos (by omega)], show usedL kd u v = [u] from by unfold usedL; rw [if_pos h2], if_neg (by omega), if_pos rfl, mark1_get _ _ _ _ hj]
        simp
      · rw [show usesF kd = 0 from by unfold usesF; rw [if_neg (by omega), if_neg h5], show usedL kd u v = [] from by unfold usedL; rw [if_neg h2, if_neg h5], if_pos rfl]
        simp

/-- It returned nothing; the marks are made; else nothing has turned. -/
def Marked (m : Nat) (f : B4) (x : Fm) (bs : List Int) (w : World) (e : Ending) (w' : World) : Prop :=
  ∃ f' : B4, e = .returned (.tuple #[]) ∧ BoxL w' m f'.cells ∧ Turn m (m + 1) w w' ∧ ∀ j : Int, 0 ≤ j ∧ j < 4 → f'.get j = (f.get j || x.freeF j (decide (j ∈ bs)))
/-- In the walk: the marks, the node's copy, the bound ones. -/
structure FS (w : World) (m : Nat) (x : Ft) (a : Option Addr) (bs : List Int) (F : B4) (W : World) : Prop where
  box : BoxL W m F.cells
  turn : Turn m (m + 1) w W
  par : BoxL W w.heap.size x.cells
  row : ∃ hi, RowIn (m + 1) hi W a (intVals bs)
section
variable {w W W' : World} {m : Nat} {x : Ft} {a : Option Addr} {bs : List Int} {F : B4}
theorem FS.below (h : FS w m x a bs F W) (hb : Below W.heap.size W W') : FS w m x a bs F W' :=
  ⟨h.box.below hb, h.turn.trans (Turn.of_below hb), h.par.below hb, h.row.imp fun _ r => r.below hb⟩
theorem FS.go (h : FS w m x a bs F W) (hm : m < w.heap.size) (t : Turn m (m + 1) W W') {G : B4} (hb : BoxL W' m G.cells) : FS w m x a bs G W' :=
  ⟨hb, h.turn.trans t, h.par.turn t (.inr (by omega)), h.row.imp fun _ r => r.turn t (.inr (Nat.le_refl _))⟩
theorem put_cells (F : B4) (n : Nat) (hn : n < 4) : (F.put (n : Int)).cells = F.cells.set n (.bool true) := by
  obtain ⟨a, b, c, d⟩ := F
  have : n = 0 ∨ n = 1 ∨ n = 2 ∨ n = 3 := by omega
  rcases this with rfl | rfl | rfl | rfl <;> rfl
theorem FS.mark (h : FS w m x a bs F W) (hm : m < w.heap.size) (n : Nat) (hn : n < 4) : FS w m x a bs (F.put (n : Int)) (W.setCell ⟨m, n, none⟩ (.bool true)) :=
  h.go hm (turn_set W m n _) (by rw [put_cells F n hn]; exact h.box.set n _)
theorem FS.cell (h : FS w m x a bs F W) (n : Nat) (hn : n < 4) : ∃ q, W.cell? ⟨m, n, none⟩ = some (.bool q) := by
  have : n = 0 ∨ n = 1 ∨ n = 2 ∨ n = 3 := by omega
  rcases this with rfl | rfl | rfl | rfl
  · exact ⟨_, h.box.c 0 _ rfl⟩
  · exact ⟨_, h.box.c 1 _ rfl⟩
  · exact ⟨_, h.box.c 2 _ rfl⟩
  · exact ⟨_, h.box.c 3 _ rfl⟩
theorem FS.inn (h : FS w m x a bs F W) (hm : m < w.heap.size) : Below m w W := (Below.refl m w).trans (Turn.below (Below.refl m w) h.turn (Nat.le_refl _) (Nat.le_of_lt hm))
theorem FS.row' (h : FS w m x a bs F W) : Row W W.heap.size a (intVals bs) := by
  obtain ⟨hi, r⟩ := h.row
  exact r.row
end

set_option maxRecDepth 100000 in
set_option maxHeartbeats 4000000 in
theorem specFree0 (x : Ft) (w : World) (a : Option Addr) (cap : Nat) (bs : List Int) (m : Nat) (f : B4) (hcap : a = none → cap = 0) (hlen : x.args.length ≤ 2 ^ 63 - 1) (hm : m < w.heap.size)
    (IH : Hid (∀ (a' : Option Addr) (cap' : Nat), (a' = none → cap' = 0) → ∀ (G : B4) (k : Nat) (hk : k < x.args.length) (W : World), FS w m x a' (boundIn x.kd x.u bs) G W → Calls Try.prog 49 #[x.args[k].val, .slice a' (boundIn x.kd x.u bs).length cap', .slice (some ⟨m, 0, none⟩) 4 4] W (Marked m G x.args[k].er (boundIn x.kd x.u bs) W)))
    (HROW : Hid (Row w m x.a (fmVals x.args)))
    (HEND : Hid (∀ (G : B4) (W : World), BoxL W m G.cells → Turn m (m + 1) w W → (∀ j : Int, 0 ≤ j ∧ j < 4 → G.get j = ((markN x.kd x.u x.v bs f).get j || (x.args.map Ft.er).any (Fm.freeF j (decide (j ∈ boundIn x.kd x.u bs))))) → Marked m f x.er bs w (.returned (.tuple #[])) W))
    (_hbl : bs.length ≤ 1048576) (HFS0 : Hid (FS w m x a bs f (w.alloc (.cells #[.int .i64 x.kd, .int .i64 x.k, .int .i64 x.u, .int .i64 x.v, .slice x.a x.args.length x.cap] 26))))
    (hnb : ¬ (x.kd = 11 ∨ x.kd = 12)) (HUS : Hid (usesF x.kd = 0)) : Calls Try.prog 49 #[x.val, .slice a bs.length cap, .slice (some ⟨m, 0, none⟩) 4 4] w (Marked m f x.er bs w) := by
  have hbe : boundIn x.kd x.u bs = bs := if_neg hnb
  have hcap' := hcap
  have hq11 : (x.kd == 11) = false := by
    have : ¬ x.kd = 11 := by omega
    simpa using this
  have hq12 : (x.kd == 12) = false := by
    have : ¬ x.kd = 12 := by omega
    simpa using this
  go_enter Try.func49, Try.ntmps49
  go_wp2_with fail
  refine (specUses _ _).mono ?_
  rintro e w1 ⟨rfl, rfl⟩
  rw [HUS.out]
  obtain ⟨W0, hW0⟩ : ∃ W0, w.alloc (.cells #[.int .i64 x.kd, .int .i64 x.k, .int .i64 x.u, .int .i64 x.v, .slice x.a x.args.length x.cap] 26) = W0 := ⟨_, rfl⟩
  have hfs : FS w m x a bs f W0 := hW0 ▸ HFS0.out
  rw [hW0]
  clear hW0 HFS0
  have e2 : W0.cell? ⟨w.heap.size, 2, none⟩ = some (.int .i64 x.u) := hfs.par.c 2 _ rfl
  have e3 : W0.cell? ⟨w.heap.size, 3, none⟩ = some (.int .i64 x.v) := hfs.par.c 3 _ rfl
  replace hfs : FS w m x a (boundIn x.kd x.u bs) (markN x.kd x.u x.v bs f) W0 := by
    rw [hbe, show markN x.kd x.u x.v bs f = f from by unfold markN; rw [if_neg hnb, if_pos HUS.out]]
    exact hfs
  have HL := Lib.hid hfs
  clear hfs
  go_wp2_with fail
  go_loopw [7] (fun i wr => ∃ (k : Nat) (G : B4), k ≤ x.args.length ∧ i = .int .i64 k ∧ FS w m x a (boundIn x.kd x.u bs) G wr ∧ ∀ j : Int, 0 ≤ j ∧ j < 4 → G.get j = ((markN x.kd x.u x.v bs f).get j || ((x.args.take k).map Ft.er).any (Fm.freeF j (decide (j ∈ boundIn x.kd x.u bs))))) (fun i _ => x.args.length - (intOf i).toNat)
  case atStart => exact ⟨0, _, Nat.zero_le _, rfl, HL.out, fun j _ => by simp⟩
  case round =>
    obtain ⟨k, G, hk, rfl, hfs, hg⟩ := hrel
    have e4 : wr.cell? ⟨w.heap.size, 4, none⟩ = some (.slice x.a x.args.length x.cap) := hfs.par.c 4 _ rfl
    have HG := Lib.hid hg
    have HFS := Lib.hid hfs
    clear hg hfs
    by_cases hlt : k < x.args.length
    · obtain ⟨b, o, ha, hbW, hE0⟩ := HROW.out.node k hlt
      obtain ⟨c0, c1, c2, c3, c4⟩ := hE0.below (HFS.out.inn hm) hbW
      rw [ha] at e4
      have HI := Lib.hid (IH.out a cap hcap' G k hlt wr HFS.out)
      have hnx : (x.args.take (k + 1)).map Ft.er = (x.args.take k).map Ft.er ++ [x.args[k].er] := by
        rw [take_next x.args k hlt, List.map_append]
        rfl
      generalize x.args[k] = y at *
      have HNX := Lib.hid hnx
      have HHA := Lib.hid ha
      clear hE0 ha hnx
      go_wp2_with fail
      rw [hbe] at HI
      refine HI.out.mono ?_
      rw [← hbe]
      rintro e w1 ⟨G', rfl, hb1, ht1, hg1⟩
      have HF1 := Lib.hid (HFS.out.go hm ht1 hb1)
      have HG1 := Lib.hid hg1
      have hz1' := ht1.size
      clear hb1 ht1 hg1
      go_wp2_with fail
      go_roundw
      case rel =>
        refine ⟨k + 1, G', by omega, by go_num, HF1.out, fun j hj => ?_⟩
        rw [HG1.out j hj, HG.out j hj, HNX.out, List.any_append, Bool.or_assoc]
        simp
      case measure => simp [intOf]; omega
    · obtain rfl : k = x.args.length := by omega
      go_wp2_with fail
      go_end0
      refine HEND.out G wr HFS.out.box HFS.out.turn fun j hj => ?_
      have := HG.out j hj
      rw [List.take_length] at this
      exact this

set_option maxRecDepth 100000 in
set_option maxHeartbeats 4000000 in
theorem specFree1 (x : Ft) (w : World) (a : Option Addr) (cap : Nat) (bs : List Int) (m : Nat) (f : B4) (hcap : a = none → cap = 0) (hlen : x.args.length ≤ 2 ^ 63 - 1) (hm : m < w.heap.size)
    (IH : Hid (∀ (a' : Option Addr) (cap' : Nat), (a' = none → cap' = 0) → ∀ (G : B4) (k : Nat) (hk : k < x.args.length) (W : World), FS w m x a' (boundIn x.kd x.u bs) G W → Calls Try.prog 49 #[x.args[k].val, .slice a' (boundIn x.kd x.u bs).length cap', .slice (some ⟨m, 0, none⟩) 4 4] W (Marked m G x.args[k].er (boundIn x.kd x.u bs) W)))
    (HROW : Hid (Row w m x.a (fmVals x.args)))
    (HEND : Hid (∀ (G : B4) (W : World), BoxL W m G.cells → Turn m (m + 1) w W → (∀ j : Int, 0 ≤ j ∧ j < 4 → G.get j = ((markN x.kd x.u x.v bs f).get j || (x.args.map Ft.er).any (Fm.freeF j (decide (j ∈ boundIn x.kd x.u bs))))) → Marked m f x.er bs w (.returned (.tuple #[])) W))
    (hbl : bs.length ≤ 1048576) (HFS0 : Hid (FS w m x a bs f (w.alloc (.cells #[.int .i64 x.kd, .int .i64 x.k, .int .i64 x.u, .int .i64 x.v, .slice x.a x.args.length x.cap] 26))))
    (hnb : ¬ (x.kd = 11 ∨ x.kd = 12)) (HUS : Hid (usesF x.kd = 1)) : Calls Try.prog 49 #[x.val, .slice a bs.length cap, .slice (some ⟨m, 0, none⟩) 4 4] w (Marked m f x.er bs w) := by
  have hbe : boundIn x.kd x.u bs = bs := if_neg hnb
  have hcap' := hcap
  have hq11 : (x.kd == 11) = false := by
    have : ¬ x.kd = 11 := by omega
    simpa using this
  have hq12 : (x.kd == 12) = false := by
    have : ¬ x.kd = 12 := by omega
    simpa using this
  go_enter Try.func49, Try.ntmps49
  go_wp2_with fail
  refine (specUses _ _).mono ?_
  rintro e w1 ⟨rfl, rfl⟩
  rw [HUS.out]
  obtain ⟨W0, hW0⟩ : ∃ W0, w.alloc (.cells #[.int .i64 x.kd, .int .i64 x.k, .int .i64 x.u, .int .i64 x.v, .slice x.a x.args.length x.cap] 26) = W0 := ⟨_, rfl⟩
  have hfs : FS w m x a bs f W0 := hW0 ▸ HFS0.out
  rw [hW0]
  clear hW0 HFS0
  have e2 : W0.cell? ⟨w.heap.size, 2, none⟩ = some (.int .i64 x.u) := hfs.par.c 2 _ rfl
  have e3 : W0.cell? ⟨w.heap.size, 3, none⟩ = some (.int .i64 x.v) := hfs.par.c 3 _ rfl
  by_cases hru : 0 ≤ x.u ∧ x.u ≤ 3
  · have HRu := Lib.hid (show (decide (0 ≤ x.u) && decide (x.u ≤ 3)) = true from by rw [Bool.and_eq_true, decide_eq_true_iff, decide_eq_true_iff]; exact hru)
    by_cases hhu : x.u ∈ bs
    · have HMu := Lib.hid (show mark1 bs x.u (f) = f from if_neg fun q => q.2 hhu)
      have HDu := Lib.hid (show decide (x.u ∈ bs) = true from decide_eq_true hhu)
      have HFSu := Lib.hid hfs
      clear hfs hhu hru
      go_wp2_with fail
      refine (specInB HRu.out _).mono ?_
      rintro e w1 ⟨rfl, hw1⟩
      obtain rfl := hw1.symm
      go_wp2_with fail
      refine (specHas a cap bs _ _ hbl HFSu.out.row').mono ?_
      rw [HDu.out]
      rintro e W1 ⟨rfl, hbu⟩
      have hfs := HFSu.out.below hbu
      clear hbu
      try clear e2
      try clear e3
      have e2 : W1.cell? ⟨w.heap.size, 2, none⟩ = some (.int .i64 x.u) := hfs.par.c 2 _ rfl
      have e3 : W1.cell? ⟨w.heap.size, 3, none⟩ = some (.int .i64 x.v) := hfs.par.c 3 _ rfl
      replace hfs : FS w m x a (boundIn x.kd x.u bs) (markN x.kd x.u x.v bs f) W1 := by
        rw [hbe, show markN x.kd x.u x.v bs f = f from by unfold markN; rw [if_neg hnb, if_neg (by rw [HUS.out]; omega), if_pos HUS.out, HMu.out]]
        exact hfs
      have HL := Lib.hid hfs
      clear hfs
      go_wp2_with fail
      go_loopw [7] (fun i wr => ∃ (k : Nat) (G : B4), k ≤ x.args.length ∧ i = .int .i64 k ∧ FS w m x a (boundIn x.kd x.u bs) G wr ∧ ∀ j : Int, 0 ≤ j ∧ j < 4 → G.get j = ((markN x.kd x.u x.v bs f).get j || ((x.args.take k).map Ft.er).any (Fm.freeF j (decide (j ∈ boundIn x.kd x.u bs))))) (fun i _ => x.args.length - (intOf i).toNat)
      case atStart => exact ⟨0, _, Nat.zero_le _, rfl, HL.out, fun j _ => by simp⟩
      case round =>
        obtain ⟨k, G, hk, rfl, hfs, hg⟩ := hrel
        have e4 : wr.cell? ⟨w.heap.size, 4, none⟩ = some (.slice x.a x.args.length x.cap) := hfs.par.c 4 _ rfl
        have HG := Lib.hid hg
        have HFS := Lib.hid hfs
        clear hg hfs
        by_cases hlt : k < x.args.length
        · obtain ⟨b, o, ha, hbW, hE0⟩ := HROW.out.node k hlt
          obtain ⟨c0, c1, c2, c3, c4⟩ := hE0.below (HFS.out.inn hm) hbW
          rw [ha] at e4
          have HI := Lib.hid (IH.out a cap hcap' G k hlt wr HFS.out)
          have hnx : (x.args.take (k + 1)).map Ft.er = (x.args.take k).map Ft.er ++ [x.args[k].er] := by
            rw [take_next x.args k hlt, List.map_append]
            rfl
          generalize x.args[k] = y at *
          have HNX := Lib.hid hnx
          have HHA := Lib.hid ha
          clear hE0 ha hnx
          go_wp2_with fail
          rw [hbe] at HI
          refine HI.out.mono ?_
          rw [← hbe]
          rintro e w1 ⟨G', rfl, hb1, ht1, hg1⟩
          have HF1 := Lib.hid (HFS.out.go hm ht1 hb1)
          have HG1 := Lib.hid hg1
          have hz1' := ht1.size
          clear hb1 ht1 hg1
          go_wp2_with fail
          go_roundw
          case rel =>
            refine ⟨k + 1, G', by omega, by go_num, HF1.out, fun j hj => ?_⟩
            rw [HG1.out j hj, HG.out j hj, HNX.out, List.any_append, Bool.or_assoc]
            simp
          case measure => simp [intOf]; omega
        · obtain rfl : k = x.args.length := by omega
          go_wp2_with fail
          go_end0
          refine HEND.out G wr HFS.out.box HFS.out.turn fun j hj => ?_
          have := HG.out j hj
          rw [List.take_length] at this
          exact this
    · obtain ⟨nu, hnu⟩ := Int.eq_ofNat_of_zero_le hru.1
      have hn4u : nu < 4 := by omega
      have HMu := Lib.hid (show mark1 bs x.u (f) = (f).put (nu : Int) from by rw [← hnu]; exact if_pos ⟨hru, hhu⟩)
      have HDu := Lib.hid (show decide (x.u ∈ bs) = false from decide_eq_false hhu)
      have HFSu := Lib.hid hfs
      have HNu := Lib.hid hnu
      clear hfs hhu hru hnu
      go_wp2_with fail
      refine (specInB HRu.out _).mono ?_
      rintro e w1 ⟨rfl, hw1⟩
      obtain rfl := hw1.symm
      go_wp2_with fail
      refine (specHas a cap bs _ _ hbl HFSu.out.row').mono ?_
      rw [HDu.out]
      rintro e W1 ⟨rfl, hbu⟩
      have hfs0 := HFSu.out.below hbu
      clear hbu
      try clear e2
      try clear e3
      have e2 : W1.cell? ⟨w.heap.size, 2, none⟩ = some (.int .i64 (nu : Int)) := (hfs0.par.c 2 _ rfl).trans (congrArg (fun z : Int => some (Value.int .i64 z)) HNu.out)
      obtain ⟨qu, hcu⟩ := hfs0.cell nu hn4u
      have hfu := hfs0.box.f
      have hfs := hfs0.mark hm nu hn4u
      have eu : (W1.setCell ⟨m, nu, none⟩ (.bool true)).cell? ⟨w.heap.size, 2, none⟩ = some (.int .i64 x.u) := hfs.par.c 2 _ rfl
      have ev : (W1.setCell ⟨m, nu, none⟩ (.bool true)).cell? ⟨w.heap.size, 3, none⟩ = some (.int .i64 x.v) := hfs.par.c 3 _ rfl
      clear hfs0
      replace hfs : FS w m x a (boundIn x.kd x.u bs) (markN x.kd x.u x.v bs f) (W1.setCell ⟨m, nu, none⟩ (.bool true)) := by
        rw [hbe, show markN x.kd x.u x.v bs f = (f).put (nu : Int) from by unfold markN; rw [if_neg hnb, if_neg (by rw [HUS.out]; omega), if_pos HUS.out, HMu.out]]
        exact hfs
      have HL := Lib.hid hfs
      clear hfs
      go_wp2_with fail
      go_loopw [7] (fun i wr => ∃ (k : Nat) (G : B4), k ≤ x.args.length ∧ i = .int .i64 k ∧ FS w m x a (boundIn x.kd x.u bs) G wr ∧ ∀ j : Int, 0 ≤ j ∧ j < 4 → G.get j = ((markN x.kd x.u x.v bs f).get j || ((x.args.take k).map Ft.er).any (Fm.freeF j (decide (j ∈ boundIn x.kd x.u bs))))) (fun i _ => x.args.length - (intOf i).toNat)
      case atStart => exact ⟨0, _, Nat.zero_le _, rfl, HL.out, fun j _ => by simp⟩
      case round =>
        obtain ⟨k, G, hk, rfl, hfs, hg⟩ := hrel
        have e4 : wr.cell? ⟨w.heap.size, 4, none⟩ = some (.slice x.a x.args.length x.cap) := hfs.par.c 4 _ rfl
        have HG := Lib.hid hg
        have HFS := Lib.hid hfs
        clear hg hfs
        by_cases hlt : k < x.args.length
        · obtain ⟨b, o, ha, hbW, hE0⟩ := HROW.out.node k hlt
          obtain ⟨c0, c1, c2, c3, c4⟩ := hE0.below (HFS.out.inn hm) hbW
          rw [ha] at e4
          have HI := Lib.hid (IH.out a cap hcap' G k hlt wr HFS.out)
          have hnx : (x.args.take (k + 1)).map Ft.er = (x.args.take k).map Ft.er ++ [x.args[k].er] := by
            rw [take_next x.args k hlt, List.map_append]
            rfl
          generalize x.args[k] = y at *
          have HNX := Lib.hid hnx
          have HHA := Lib.hid ha
          clear hE0 ha hnx
          go_wp2_with fail
          rw [hbe] at HI
          refine HI.out.mono ?_
          rw [← hbe]
          rintro e w1 ⟨G', rfl, hb1, ht1, hg1⟩
          have HF1 := Lib.hid (HFS.out.go hm ht1 hb1)
          have HG1 := Lib.hid hg1
          have hz1' := ht1.size
          clear hb1 ht1 hg1
          go_wp2_with fail
          go_roundw
          case rel =>
            refine ⟨k + 1, G', by omega, by go_num, HF1.out, fun j hj => ?_⟩
            rw [HG1.out j hj, HG.out j hj, HNX.out, List.any_append, Bool.or_assoc]
            simp
          case measure => simp [intOf]; omega
        · obtain rfl : k = x.args.length := by omega
          go_wp2_with fail
          go_end0
          refine HEND.out G wr HFS.out.box HFS.out.turn fun j hj => ?_
          have := HG.out j hj
          rw [List.take_length] at this
          exact this
  · have HRu := Lib.hid (show (decide (0 ≤ x.u) && decide (x.u ≤ 3)) = false from decU hru)
    have HMu := Lib.hid (show mark1 bs x.u (f) = f from if_neg fun q => hru q.1)
    have HFSu := Lib.hid hfs
    clear hfs hru
    go_wp2_with fail
    refine (specInB HRu.out _).mono ?_
    rintro e w1 ⟨rfl, hw1⟩
    obtain rfl := hw1.symm
    have hfs := HFSu.out
    replace hfs : FS w m x a (boundIn x.kd x.u bs) (markN x.kd x.u x.v bs f) W0 := by
      rw [hbe, show markN x.kd x.u x.v bs f = f from by unfold markN; rw [if_neg hnb, if_neg (by rw [HUS.out]; omega), if_pos HUS.out, HMu.out]]
      exact hfs
    have HL := Lib.hid hfs
    clear hfs
    go_wp2_with fail
    go_loopw [7] (fun i wr => ∃ (k : Nat) (G : B4), k ≤ x.args.length ∧ i = .int .i64 k ∧ FS w m x a (boundIn x.kd x.u bs) G wr ∧ ∀ j : Int, 0 ≤ j ∧ j < 4 → G.get j = ((markN x.kd x.u x.v bs f).get j || ((x.args.take k).map Ft.er).any (Fm.freeF j (decide (j ∈ boundIn x.kd x.u bs))))) (fun i _ => x.args.length - (intOf i).toNat)
    case atStart => exact ⟨0, _, Nat.zero_le _, rfl, HL.out, fun j _ => by simp⟩
    case round =>
      obtain ⟨k, G, hk, rfl, hfs, hg⟩ := hrel
      have e4 : wr.cell? ⟨w.heap.size, 4, none⟩ = some (.slice x.a x.args.length x.cap) := hfs.par.c 4 _ rfl
      have HG := Lib.hid hg
      have HFS := Lib.hid hfs
      clear hg hfs
      by_cases hlt : k < x.args.length
      · obtain ⟨b, o, ha, hbW, hE0⟩ := HROW.out.node k hlt
        obtain ⟨c0, c1, c2, c3, c4⟩ := hE0.below (HFS.out.inn hm) hbW
        rw [ha] at e4
        have HI := Lib.hid (IH.out a cap hcap' G k hlt wr HFS.out)
        have hnx : (x.args.take (k + 1)).map Ft.er = (x.args.take k).map Ft.er ++ [x.args[k].er] := by
          rw [take_next x.args k hlt, List.map_append]
          rfl
        generalize x.args[k] = y at *
        have HNX := Lib.hid hnx
        have HHA := Lib.hid ha
        clear hE0 ha hnx
        go_wp2_with fail
        rw [hbe] at HI
        refine HI.out.mono ?_
        rw [← hbe]
        rintro e w1 ⟨G', rfl, hb1, ht1, hg1⟩
        have HF1 := Lib.hid (HFS.out.go hm ht1 hb1)
        have HG1 := Lib.hid hg1
        have hz1' := ht1.size
        clear hb1 ht1 hg1
        go_wp2_with fail
        go_roundw
        case rel =>
          refine ⟨k + 1, G', by omega, by go_num, HF1.out, fun j hj => ?_⟩
          rw [HG1.out j hj, HG.out j hj, HNX.out, List.any_append, Bool.or_assoc]
          simp
        case measure => simp [intOf]; omega
      · obtain rfl : k = x.args.length := by omega
        go_wp2_with fail
        go_end0
        refine HEND.out G wr HFS.out.box HFS.out.turn fun j hj => ?_
        have := HG.out j hj
        rw [List.take_length] at this
        exact this

set_option maxRecDepth 100000 in
set_option maxHeartbeats 4000000 in
theorem specFree2 (x : Ft) (w : World) (a : Option Addr) (cap : Nat) (bs : List Int) (m : Nat) (f : B4) (hcap : a = none → cap = 0) (hlen : x.args.length ≤ 2 ^ 63 - 1) (hm : m < w.heap.size)
    (IH : Hid (∀ (a' : Option Addr) (cap' : Nat), (a' = none → cap' = 0) → ∀ (G : B4) (k : Nat) (hk : k < x.args.length) (W : World), FS w m x a' (boundIn x.kd x.u bs) G W → Calls Try.prog 49 #[x.args[k].val, .slice a' (boundIn x.kd x.u bs).length cap', .slice (some ⟨m, 0, none⟩) 4 4] W (Marked m G x.args[k].er (boundIn x.kd x.u bs) W)))
    (HROW : Hid (Row w m x.a (fmVals x.args)))
    (HEND : Hid (∀ (G : B4) (W : World), BoxL W m G.cells → Turn m (m + 1) w W → (∀ j : Int, 0 ≤ j ∧ j < 4 → G.get j = ((markN x.kd x.u x.v bs f).get j || (x.args.map Ft.er).any (Fm.freeF j (decide (j ∈ boundIn x.kd x.u bs))))) → Marked m f x.er bs w (.returned (.tuple #[])) W))
    (hbl : bs.length ≤ 1048576) (HFS0 : Hid (FS w m x a bs f (w.alloc (.cells #[.int .i64 x.kd, .int .i64 x.k, .int .i64 x.u, .int .i64 x.v, .slice x.a x.args.length x.cap] 26))))
    (hnb : ¬ (x.kd = 11 ∨ x.kd = 12)) (HUS : Hid (usesF x.kd = 2)) : Calls Try.prog 49 #[x.val, .slice a bs.length cap, .slice (some ⟨m, 0, none⟩) 4 4] w (Marked m f x.er bs w) := by
  have hbe : boundIn x.kd x.u bs = bs := if_neg hnb
  have hcap' := hcap
  have hq11 : (x.kd == 11) = false := by
    have : ¬ x.kd = 11 := by omega
    simpa using this
  have hq12 : (x.kd == 12) = false := by
    have : ¬ x.kd = 12 := by omega
    simpa using this
  go_enter Try.func49, Try.ntmps49
  go_wp2_with fail
  refine (specUses _ _).mono ?_
  rintro e w1 ⟨rfl, rfl⟩
  rw [HUS.out]
  obtain ⟨W0, hW0⟩ : ∃ W0, w.alloc (.cells #[.int .i64 x.kd, .int .i64 x.k, .int .i64 x.u, .int .i64 x.v, .slice x.a x.args.length x.cap] 26) = W0 := ⟨_, rfl⟩
  have hfs : FS w m x a bs f W0 := hW0 ▸ HFS0.out
  rw [hW0]
  clear hW0 HFS0
  have e2 : W0.cell? ⟨w.heap.size, 2, none⟩ = some (.int .i64 x.u) := hfs.par.c 2 _ rfl
  have e3 : W0.cell? ⟨w.heap.size, 3, none⟩ = some (.int .i64 x.v) := hfs.par.c 3 _ rfl
  by_cases hru : 0 ≤ x.u ∧ x.u ≤ 3
  · have HRu := Lib.hid (show (decide (0 ≤ x.u) && decide (x.u ≤ 3)) = true from by rw [Bool.and_eq_true, decide_eq_true_iff, decide_eq_true_iff]; exact hru)
    by_cases hhu : x.u ∈ bs
    · have HMu := Lib.hid (show mark1 bs x.u (f) = f from if_neg fun q => q.2 hhu)
      have HDu := Lib.hid (show decide (x.u ∈ bs) = true from decide_eq_true hhu)
      have HFSu := Lib.hid hfs
      clear hfs hhu hru
      go_wp2_with fail
      refine (specInB HRu.out _).mono ?_
      rintro e w1 ⟨rfl, hw1⟩
      obtain rfl := hw1.symm
      go_wp2_with fail
      refine (specHas a cap bs _ _ hbl HFSu.out.row').mono ?_
      rw [HDu.out]
      rintro e W1 ⟨rfl, hbu⟩
      have hfs := HFSu.out.below hbu
      clear hbu
      try clear e2
      try clear e3
      have e2 : W1.cell? ⟨w.heap.size, 2, none⟩ = some (.int .i64 x.u) := hfs.par.c 2 _ rfl
      have e3 : W1.cell? ⟨w.heap.size, 3, none⟩ = some (.int .i64 x.v) := hfs.par.c 3 _ rfl
      by_cases hrv : 0 ≤ x.v ∧ x.v ≤ 3
      · have HRv := Lib.hid (show (decide (0 ≤ x.v) && decide (x.v ≤ 3)) = true from by rw [Bool.and_eq_true, decide_eq_true_iff, decide_eq_true_iff]; exact hrv)
        by_cases hhv : x.v ∈ bs
        · have HMv := Lib.hid (show mark1 bs x.v (f) = f from if_neg fun q => q.2 hhv)
          have HDv := Lib.hid (show decide (x.v ∈ bs) = true from decide_eq_true hhv)
          have HFSv := Lib.hid hfs
          clear hfs hhv hrv
          go_wp2_with fail
          refine (specInB HRv.out _).mono ?_
          rintro e w1 ⟨rfl, hw1⟩
          obtain rfl := hw1.symm
          go_wp2_with fail
          refine (specHas a cap bs _ _ hbl HFSv.out.row').mono ?_
          rw [HDv.out]
          rintro e W2 ⟨rfl, hbv⟩
          have hfs := HFSv.out.below hbv
          clear hbv
          try clear e2
          try clear e3
          have e2 : W2.cell? ⟨w.heap.size, 2, none⟩ = some (.int .i64 x.u) := hfs.par.c 2 _ rfl
          have e3 : W2.cell? ⟨w.heap.size, 3, none⟩ = some (.int .i64 x.v) := hfs.par.c 3 _ rfl
          replace hfs : FS w m x a (boundIn x.kd x.u bs) (markN x.kd x.u x.v bs f) W2 := by
            rw [hbe, show markN x.kd x.u x.v bs f = f from by unfold markN; rw [if_neg hnb, if_neg (by rw [HUS.out]; omega), if_neg (by rw [HUS.out]; omega), HMu.out, HMv.out]]
            exact hfs
          have HL := Lib.hid hfs
          clear hfs
          go_wp2_with fail
          go_loopw [7] (fun i wr => ∃ (k : Nat) (G : B4), k ≤ x.args.length ∧ i = .int .i64 k ∧ FS w m x a (boundIn x.kd x.u bs) G wr ∧ ∀ j : Int, 0 ≤ j ∧ j < 4 → G.get j = ((markN x.kd x.u x.v bs f).get j || ((x.args.take k).map Ft.er).any (Fm.freeF j (decide (j ∈ boundIn x.kd x.u bs))))) (fun i _ => x.args.length - (intOf i).toNat)
          case atStart => exact ⟨0, _, Nat.zero_le _, rfl, HL.out, fun j _ => by simp⟩
          case round =>
            obtain ⟨k, G, hk, rfl, hfs, hg⟩ := hrel
            have e4 : wr.cell? ⟨w.heap.size, 4, none⟩ = some (.slice x.a x.args.length x.cap) := hfs.par.c 4 _ rfl
            have HG := Lib.hid hg
            have HFS := Lib.hid hfs
            clear hg hfs
            by_cases hlt : k < x.args.length
            · obtain ⟨b, o, ha, hbW, hE0⟩ := HROW.out.node k hlt
              obtain ⟨c0, c1, c2, c3, c4⟩ := hE0.below (HFS.out.inn hm) hbW
              rw [ha] at e4
              have HI := Lib.hid (IH.out a cap hcap' G k hlt wr HFS.out)
              have hnx : (x.args.take (k + 1)).map Ft.er = (x.args.take k).map Ft.er ++ [x.args[k].er] := by
                rw [take_next x.args k hlt, List.map_append]
                rfl
              generalize x.args[k] = y at *
              have HNX := Lib.hid hnx
              have HHA := Lib.hid ha
              clear hE0 ha hnx
              go_wp2_with fail
              rw [hbe] at HI
              refine HI.out.mono ?_
              rw [← hbe]
              rintro e w1 ⟨G', rfl, hb1, ht1, hg1⟩
              have HF1 := Lib.hid (HFS.out.go hm ht1 hb1)
              have HG1 := Lib.hid hg1
              have hz1' := ht1.size
              clear hb1 ht1 hg1
              go_wp2_with fail
              go_roundw
              case rel =>
                refine ⟨k + 1, G', by omega, by go_num, HF1.out, fun j hj => ?_⟩
                rw [HG1.out j hj, HG.out j hj, HNX.out, List.any_append, Bool.or_assoc]
                simp
              case measure => simp [intOf]; omega
            · obtain rfl : k = x.args.length := by omega
              go_wp2_with fail
              go_end0
              refine HEND.out G wr HFS.out.box HFS.out.turn fun j hj => ?_
              have := HG.out j hj
              rw [List.take_length] at this
              exact this
        · obtain ⟨nv, hnv⟩ := Int.eq_ofNat_of_zero_le hrv.1
          have hn4v : nv < 4 := by omega
          have HMv := Lib.hid (show mark1 bs x.v (f) = (f).put (nv : Int) from by rw [← hnv]; exact if_pos ⟨hrv, hhv⟩)
          have HDv := Lib.hid (show decide (x.v ∈ bs) = false from decide_eq_false hhv)
          have HFSv := Lib.hid hfs
          have HNv := Lib.hid hnv
          clear hfs hhv hrv hnv
          go_wp2_with fail
          refine (specInB HRv.out _).mono ?_
          rintro e w1 ⟨rfl, hw1⟩
          obtain rfl := hw1.symm
          go_wp2_with fail
          refine (specHas a cap bs _ _ hbl HFSv.out.row').mono ?_
          rw [HDv.out]
          rintro e W2 ⟨rfl, hbv⟩
          have hfs0 := HFSv.out.below hbv
          clear hbv
          try clear e2
          try clear e3
          have e2 : W2.cell? ⟨w.heap.size, 3, none⟩ = some (.int .i64 (nv : Int)) := (hfs0.par.c 3 _ rfl).trans (congrArg (fun z : Int => some (Value.int .i64 z)) HNv.out)
          obtain ⟨qv, hcv⟩ := hfs0.cell nv hn4v
          have hfv := hfs0.box.f
          have hfs := hfs0.mark hm nv hn4v
          have eu : (W2.setCell ⟨m, nv, none⟩ (.bool true)).cell? ⟨w.heap.size, 2, none⟩ = some (.int .i64 x.u) := hfs.par.c 2 _ rfl
          have ev : (W2.setCell ⟨m, nv, none⟩ (.bool true)).cell? ⟨w.heap.size, 3, none⟩ = some (.int .i64 x.v) := hfs.par.c 3 _ rfl
          clear hfs0
          replace hfs : FS w m x a (boundIn x.kd x.u bs) (markN x.kd x.u x.v bs f) (W2.setCell ⟨m, nv, none⟩ (.bool true)) := by
            rw [hbe, show markN x.kd x.u x.v bs f = (f).put (nv : Int) from by unfold markN; rw [if_neg hnb, if_neg (by rw [HUS.out]; omega), if_neg (by rw [HUS.out]; omega), HMu.out, HMv.out]]
            exact hfs
          have HL := Lib.hid hfs
          clear hfs
          go_wp2_with fail
          go_loopw [7] (fun i wr => ∃ (k : Nat) (G : B4), k ≤ x.args.length ∧ i = .int .i64 k ∧ FS w m x a (boundIn x.kd x.u bs) G wr ∧ ∀ j : Int, 0 ≤ j ∧ j < 4 → G.get j = ((markN x.kd x.u x.v bs f).get j || ((x.args.take k).map Ft.er).any (Fm.freeF j (decide (j ∈ boundIn x.kd x.u bs))))) (fun i _ => x.args.length - (intOf i).toNat)
          case atStart => exact ⟨0, _, Nat.zero_le _, rfl, HL.out, fun j _ => by simp⟩
          case round =>
            obtain ⟨k, G, hk, rfl, hfs, hg⟩ := hrel
            have e4 : wr.cell? ⟨w.heap.size, 4, none⟩ = some (.slice x.a x.args.length x.cap) := hfs.par.c 4 _ rfl
            have HG := Lib.hid hg
            have HFS := Lib.hid hfs
            clear hg hfs
            by_cases hlt : k < x.args.length
            · obtain ⟨b, o, ha, hbW, hE0⟩ := HROW.out.node k hlt
              obtain ⟨c0, c1, c2, c3, c4⟩ := hE0.below (HFS.out.inn hm) hbW
              rw [ha] at e4
              have HI := Lib.hid (IH.out a cap hcap' G k hlt wr HFS.out)
              have hnx : (x.args.take (k + 1)).map Ft.er = (x.args.take k).map Ft.er ++ [x.args[k].er] := by
                rw [take_next x.args k hlt, List.map_append]
                rfl
              generalize x.args[k] = y at *
              have HNX := Lib.hid hnx
              have HHA := Lib.hid ha
              clear hE0 ha hnx
              go_wp2_with fail
              rw [hbe] at HI
              refine HI.out.mono ?_
              rw [← hbe]
              rintro e w1 ⟨G', rfl, hb1, ht1, hg1⟩
              have HF1 := Lib.hid (HFS.out.go hm ht1 hb1)
              have HG1 := Lib.hid hg1
              have hz1' := ht1.size
              clear hb1 ht1 hg1
              go_wp2_with fail
              go_roundw
              case rel =>
                refine ⟨k + 1, G', by omega, by go_num, HF1.out, fun j hj => ?_⟩
                rw [HG1.out j hj, HG.out j hj, HNX.out, List.any_append, Bool.or_assoc]
                simp
              case measure => simp [intOf]; omega
            · obtain rfl : k = x.args.length := by omega
              go_wp2_with fail
              go_end0
              refine HEND.out G wr HFS.out.box HFS.out.turn fun j hj => ?_
              have := HG.out j hj
              rw [List.take_length] at this
              exact this
      · have HRv := Lib.hid (show (decide (0 ≤ x.v) && decide (x.v ≤ 3)) = false from decU hrv)
        have HMv := Lib.hid (show mark1 bs x.v (f) = f from if_neg fun q => hrv q.1)
        have HFSv := Lib.hid hfs
        clear hfs hrv
        go_wp2_with fail
        refine (specInB HRv.out _).mono ?_
        rintro e w1 ⟨rfl, hw1⟩
        obtain rfl := hw1.symm
        have hfs := HFSv.out
        replace hfs : FS w m x a (boundIn x.kd x.u bs) (markN x.kd x.u x.v bs f) W1 := by
          rw [hbe, show markN x.kd x.u x.v bs f = f from by unfold markN; rw [if_neg hnb, if_neg (by rw [HUS.out]; omega), if_neg (by rw [HUS.out]; omega), HMu.out, HMv.out]]
          exact hfs
        have HL := Lib.hid hfs
        clear hfs
        go_wp2_with fail
        go_loopw [7] (fun i wr => ∃ (k : Nat) (G : B4), k ≤ x.args.length ∧ i = .int .i64 k ∧ FS w m x a (boundIn x.kd x.u bs) G wr ∧ ∀ j : Int, 0 ≤ j ∧ j < 4 → G.get j = ((markN x.kd x.u x.v bs f).get j || ((x.args.take k).map Ft.er).any (Fm.freeF j (decide (j ∈ boundIn x.kd x.u bs))))) (fun i _ => x.args.length - (intOf i).toNat)
        case atStart => exact ⟨0, _, Nat.zero_le _, rfl, HL.out, fun j _ => by simp⟩
        case round =>
          obtain ⟨k, G, hk, rfl, hfs, hg⟩ := hrel
          have e4 : wr.cell? ⟨w.heap.size, 4, none⟩ = some (.slice x.a x.args.length x.cap) := hfs.par.c 4 _ rfl
          have HG := Lib.hid hg
          have HFS := Lib.hid hfs
          clear hg hfs
          by_cases hlt : k < x.args.length
          · obtain ⟨b, o, ha, hbW, hE0⟩ := HROW.out.node k hlt
            obtain ⟨c0, c1, c2, c3, c4⟩ := hE0.below (HFS.out.inn hm) hbW
            rw [ha] at e4
            have HI := Lib.hid (IH.out a cap hcap' G k hlt wr HFS.out)
            have hnx : (x.args.take (k + 1)).map Ft.er = (x.args.take k).map Ft.er ++ [x.args[k].er] := by
              rw [take_next x.args k hlt, List.map_append]
              rfl
            generalize x.args[k] = y at *
            have HNX := Lib.hid hnx
            have HHA := Lib.hid ha
            clear hE0 ha hnx
            go_wp2_with fail
            rw [hbe] at HI
            refine HI.out.mono ?_
            rw [← hbe]
            rintro e w1 ⟨G', rfl, hb1, ht1, hg1⟩
            have HF1 := Lib.hid (HFS.out.go hm ht1 hb1)
            have HG1 := Lib.hid hg1
            have hz1' := ht1.size
            clear hb1 ht1 hg1
            go_wp2_with fail
            go_roundw
            case rel =>
              refine ⟨k + 1, G', by omega, by go_num, HF1.out, fun j hj => ?_⟩
              rw [HG1.out j hj, HG.out j hj, HNX.out, List.any_append, Bool.or_assoc]
              simp
            case measure => simp [intOf]; omega
          · obtain rfl : k = x.args.length := by omega
            go_wp2_with fail
            go_end0
            refine HEND.out G wr HFS.out.box HFS.out.turn fun j hj => ?_
            have := HG.out j hj
            rw [List.take_length] at this
            exact this
    · obtain ⟨nu, hnu⟩ := Int.eq_ofNat_of_zero_le hru.1
      have hn4u : nu < 4 := by omega
      have HMu := Lib.hid (show mark1 bs x.u (f) = (f).put (nu : Int) from by rw [← hnu]; exact if_pos ⟨hru, hhu⟩)
      have HDu := Lib.hid (show decide (x.u ∈ bs) = false from decide_eq_false hhu)
      have HFSu := Lib.hid hfs
      have HNu := Lib.hid hnu
      clear hfs hhu hru hnu
      go_wp2_with fail
      refine (specInB HRu.out _).mono ?_
      rintro e w1 ⟨rfl, hw1⟩
      obtain rfl := hw1.symm
      go_wp2_with fail
      refine (specHas a cap bs _ _ hbl HFSu.out.row').mono ?_
      rw [HDu.out]
      rintro e W1 ⟨rfl, hbu⟩
      have hfs0 := HFSu.out.below hbu
      clear hbu
      try clear e2
      try clear e3
      have e2 : W1.cell? ⟨w.heap.size, 2, none⟩ = some (.int .i64 (nu : Int)) := (hfs0.par.c 2 _ rfl).trans (congrArg (fun z : Int => some (Value.int .i64 z)) HNu.out)
      obtain ⟨qu, hcu⟩ := hfs0.cell nu hn4u
      have hfu := hfs0.box.f
      have hfs := hfs0.mark hm nu hn4u
      have eu : (W1.setCell ⟨m, nu, none⟩ (.bool true)).cell? ⟨w.heap.size, 2, none⟩ = some (.int .i64 x.u) := hfs.par.c 2 _ rfl
      have ev : (W1.setCell ⟨m, nu, none⟩ (.bool true)).cell? ⟨w.heap.size, 3, none⟩ = some (.int .i64 x.v) := hfs.par.c 3 _ rfl
      clear hfs0
      by_cases hrv : 0 ≤ x.v ∧ x.v ≤ 3
      · have HRv := Lib.hid (show (decide (0 ≤ x.v) && decide (x.v ≤ 3)) = true from by rw [Bool.and_eq_true, decide_eq_true_iff, decide_eq_true_iff]; exact hrv)
        by_cases hhv : x.v ∈ bs
        · have HMv := Lib.hid (show mark1 bs x.v ((f).put (nu : Int)) = (f).put (nu : Int) from if_neg fun q => q.2 hhv)
          have HDv := Lib.hid (show decide (x.v ∈ bs) = true from decide_eq_true hhv)
          have HFSv := Lib.hid hfs
          clear hfs hhv hrv
          go_wp2_with fail
          refine (specInB HRv.out _).mono ?_
          rintro e w1 ⟨rfl, hw1⟩
          obtain rfl := hw1.symm
          go_wp2_with fail
          refine (specHas a cap bs _ _ hbl HFSv.out.row').mono ?_
          rw [HDv.out]
          rintro e W2 ⟨rfl, hbv⟩
          have hfs := HFSv.out.below hbv
          clear hbv
          try clear e2
          try clear e3
          have e2 : W2.cell? ⟨w.heap.size, 2, none⟩ = some (.int .i64 x.u) := hfs.par.c 2 _ rfl
          have e3 : W2.cell? ⟨w.heap.size, 3, none⟩ = some (.int .i64 x.v) := hfs.par.c 3 _ rfl
          replace hfs : FS w m x a (boundIn x.kd x.u bs) (markN x.kd x.u x.v bs f) W2 := by
            rw [hbe, show markN x.kd x.u x.v bs f = (f).put (nu : Int) from by unfold markN; rw [if_neg hnb, if_neg (by rw [HUS.out]; omega), if_neg (by rw [HUS.out]; omega), HMu.out, HMv.out]]
            exact hfs
          have HL := Lib.hid hfs
          clear hfs
          go_wp2_with fail
          go_loopw [7] (fun i wr => ∃ (k : Nat) (G : B4), k ≤ x.args.length ∧ i = .int .i64 k ∧ FS w m x a (boundIn x.kd x.u bs) G wr ∧ ∀ j : Int, 0 ≤ j ∧ j < 4 → G.get j = ((markN x.kd x.u x.v bs f).get j || ((x.args.take k).map Ft.er).any (Fm.freeF j (decide (j ∈ boundIn x.kd x.u bs))))) (fun i _ => x.args.length - (intOf i).toNat)
          case atStart => exact ⟨0, _, Nat.zero_le _, rfl, HL.out, fun j _ => by simp⟩
          case round =>
            obtain ⟨k, G, hk, rfl, hfs, hg⟩ := hrel
            have e4 : wr.cell? ⟨w.heap.size, 4, none⟩ = some (.slice x.a x.args.length x.cap) := hfs.par.c 4 _ rfl
            have HG := Lib.hid hg
            have HFS := Lib.hid hfs
            clear hg hfs
            by_cases hlt : k < x.args.length
            · obtain ⟨b, o, ha, hbW, hE0⟩ := HROW.out.node k hlt
              obtain ⟨c0, c1, c2, c3, c4⟩ := hE0.below (HFS.out.inn hm) hbW
              rw [ha] at e4
              have HI := Lib.hid (IH.out a cap hcap' G k hlt wr HFS.out)
              have hnx : (x.args.take (k + 1)).map Ft.er = (x.args.take k).map Ft.er ++ [x.args[k].er] := by
                rw [take_next x.args k hlt, List.map_append]
                rfl
              generalize x.args[k] = y at *
              have HNX := Lib.hid hnx
              have HHA := Lib.hid ha
              clear hE0 ha hnx
              go_wp2_with fail
              rw [hbe] at HI
              refine HI.out.mono ?_
              rw [← hbe]
              rintro e w1 ⟨G', rfl, hb1, ht1, hg1⟩
              have HF1 := Lib.hid (HFS.out.go hm ht1 hb1)
              have HG1 := Lib.hid hg1
              have hz1' := ht1.size
              clear hb1 ht1 hg1
              go_wp2_with fail
              go_roundw
              case rel =>
                refine ⟨k + 1, G', by omega, by go_num, HF1.out, fun j hj => ?_⟩
                rw [HG1.out j hj, HG.out j hj, HNX.out, List.any_append, Bool.or_assoc]
                simp
              case measure => simp [intOf]; omega
            · obtain rfl : k = x.args.length := by omega
              go_wp2_with fail
              go_end0
              refine HEND.out G wr HFS.out.box HFS.out.turn fun j hj => ?_
              have := HG.out j hj
              rw [List.take_length] at this
              exact this
        · obtain ⟨nv, hnv⟩ := Int.eq_ofNat_of_zero_le hrv.1
          have hn4v : nv < 4 := by omega
          have HMv := Lib.hid (show mark1 bs x.v ((f).put (nu : Int)) = ((f).put (nu : Int)).put (nv : Int) from by rw [← hnv]; exact if_pos ⟨hrv, hhv⟩)
          have HDv := Lib.hid (show decide (x.v ∈ bs) = false from decide_eq_false hhv)
          have HFSv := Lib.hid hfs
          have HNv := Lib.hid hnv
          clear hfs hhv hrv hnv
          go_wp2_with fail
          refine (specInB HRv.out _).mono ?_
          rintro e w1 ⟨rfl, hw1⟩
          obtain rfl := hw1.symm
          go_wp2_with fail
          refine (specHas a cap bs _ _ hbl HFSv.out.row').mono ?_
          rw [HDv.out]
          rintro e W2 ⟨rfl, hbv⟩
          have hfs0 := HFSv.out.below hbv
          clear hbv
          try clear e2
          try clear e3
          have e2 : W2.cell? ⟨w.heap.size, 3, none⟩ = some (.int .i64 (nv : Int)) := (hfs0.par.c 3 _ rfl).trans (congrArg (fun z : Int => some (Value.int .i64 z)) HNv.out)
          obtain ⟨qv, hcv⟩ := hfs0.cell nv hn4v
          have hfv := hfs0.box.f
          have hfs := hfs0.mark hm nv hn4v
          have eu : (W2.setCell ⟨m, nv, none⟩ (.bool true)).cell? ⟨w.heap.size, 2, none⟩ = some (.int .i64 x.u) := hfs.par.c 2 _ rfl
          have ev : (W2.setCell ⟨m, nv, none⟩ (.bool true)).cell? ⟨w.heap.size, 3, none⟩ = some (.int .i64 x.v) := hfs.par.c 3 _ rfl
          clear hfs0
          replace hfs : FS w m x a (boundIn x.kd x.u bs) (markN x.kd x.u x.v bs f) (W2.setCell ⟨m, nv, none⟩ (.bool true)) := by
            rw [hbe, show markN x.kd x.u x.v bs f = ((f).put (nu : Int)).put (nv : Int) from by unfold markN; rw [if_neg hnb, if_neg (by rw [HUS.out]; omega), if_neg (by rw [HUS.out]; omega), HMu.out, HMv.out]]
            exact hfs
          have HL := Lib.hid hfs
          clear hfs
          go_wp2_with fail
          go_loopw [7] (fun i wr => ∃ (k : Nat) (G : B4), k ≤ x.args.length ∧ i = .int .i64 k ∧ FS w m x a (boundIn x.kd x.u bs) G wr ∧ ∀ j : Int, 0 ≤ j ∧ j < 4 → G.get j = ((markN x.kd x.u x.v bs f).get j || ((x.args.take k).map Ft.er).any (Fm.freeF j (decide (j ∈ boundIn x.kd x.u bs))))) (fun i _ => x.args.length - (intOf i).toNat)
          case atStart => exact ⟨0, _, Nat.zero_le _, rfl, HL.out, fun j _ => by simp⟩
          case round =>
            obtain ⟨k, G, hk, rfl, hfs, hg⟩ := hrel
            have e4 : wr.cell? ⟨w.heap.size, 4, none⟩ = some (.slice x.a x.args.length x.cap) := hfs.par.c 4 _ rfl
            have HG := Lib.hid hg
            have HFS := Lib.hid hfs
            clear hg hfs
            by_cases hlt : k < x.args.length
            · obtain ⟨b, o, ha, hbW, hE0⟩ := HROW.out.node k hlt
              obtain ⟨c0, c1, c2, c3, c4⟩ := hE0.below (HFS.out.inn hm) hbW
              rw [ha] at e4
              have HI := Lib.hid (IH.out a cap hcap' G k hlt wr HFS.out)
              have hnx : (x.args.take (k + 1)).map Ft.er = (x.args.take k).map Ft.er ++ [x.args[k].er] := by
                rw [take_next x.args k hlt, List.map_append]
                rfl
              generalize x.args[k] = y at *
              have HNX := Lib.hid hnx
              have HHA := Lib.hid ha
              clear hE0 ha hnx
              go_wp2_with fail
              rw [hbe] at HI
              refine HI.out.mono ?_
              rw [← hbe]
              rintro e w1 ⟨G', rfl, hb1, ht1, hg1⟩
              have HF1 := Lib.hid (HFS.out.go hm ht1 hb1)
              have HG1 := Lib.hid hg1
              have hz1' := ht1.size
              clear hb1 ht1 hg1
              go_wp2_with fail
              go_roundw
              case rel =>
                refine ⟨k + 1, G', by omega, by go_num, HF1.out, fun j hj => ?_⟩
                rw [HG1.out j hj, HG.out j hj, HNX.out, List.any_append, Bool.or_assoc]
                simp
              case measure => simp [intOf]; omega
            · obtain rfl : k = x.args.length := by omega
              go_wp2_with fail
              go_end0
              refine HEND.out G wr HFS.out.box HFS.out.turn fun j hj => ?_
              have := HG.out j hj
              rw [List.take_length] at this
              exact this
      · have HRv := Lib.hid (show (decide (0 ≤ x.v) && decide (x.v ≤ 3)) = false from decU hrv)
        have HMv := Lib.hid (show mark1 bs x.v ((f).put (nu : Int)) = (f).put (nu : Int) from if_neg fun q => hrv q.1)
        have HFSv := Lib.hid hfs
        clear hfs hrv
        go_wp2_with fail
        refine (specInB HRv.out _).mono ?_
        rintro e w1 ⟨rfl, hw1⟩
        obtain rfl := hw1.symm
        have hfs := HFSv.out
        replace hfs : FS w m x a (boundIn x.kd x.u bs) (markN x.kd x.u x.v bs f) (W1.setCell ⟨m, nu, none⟩ (.bool true)) := by
          rw [hbe, show markN x.kd x.u x.v bs f = (f).put (nu : Int) from by unfold markN; rw [if_neg hnb, if_neg (by rw [HUS.out]; omega), if_neg (by rw [HUS.out]; omega), HMu.out, HMv.out]]
          exact hfs
        have HL := Lib.hid hfs
        clear hfs
        go_wp2_with fail
        go_loopw [7] (fun i wr => ∃ (k : Nat) (G : B4), k ≤ x.args.length ∧ i = .int .i64 k ∧ FS w m x a (boundIn x.kd x.u bs) G wr ∧ ∀ j : Int, 0 ≤ j ∧ j < 4 → G.get j = ((markN x.kd x.u x.v bs f).get j || ((x.args.take k).map Ft.er).any (Fm.freeF j (decide (j ∈ boundIn x.kd x.u bs))))) (fun i _ => x.args.length - (intOf i).toNat)
        case atStart => exact ⟨0, _, Nat.zero_le _, rfl, HL.out, fun j _ => by simp⟩
        case round =>
          obtain ⟨k, G, hk, rfl, hfs, hg⟩ := hrel
          have e4 : wr.cell? ⟨w.heap.size, 4, none⟩ = some (.slice x.a x.args.length x.cap) := hfs.par.c 4 _ rfl
          have HG := Lib.hid hg
          have HFS := Lib.hid hfs
          clear hg hfs
          by_cases hlt : k < x.args.length
          · obtain ⟨b, o, ha, hbW, hE0⟩ := HROW.out.node k hlt
            obtain ⟨c0, c1, c2, c3, c4⟩ := hE0.below (HFS.out.inn hm) hbW
            rw [ha] at e4
            have HI := Lib.hid (IH.out a cap hcap' G k hlt wr HFS.out)
            have hnx : (x.args.take (k + 1)).map Ft.er = (x.args.take k).map Ft.er ++ [x.args[k].er] := by
              rw [take_next x.args k hlt, List.map_append]
              rfl
            generalize x.args[k] = y at *
            have HNX := Lib.hid hnx
            have HHA := Lib.hid ha
            clear hE0 ha hnx
            go_wp2_with fail
            rw [hbe] at HI
            refine HI.out.mono ?_
            rw [← hbe]
            rintro e w1 ⟨G', rfl, hb1, ht1, hg1⟩
            have HF1 := Lib.hid (HFS.out.go hm ht1 hb1)
            have HG1 := Lib.hid hg1
            have hz1' := ht1.size
            clear hb1 ht1 hg1
            go_wp2_with fail
            go_roundw
            case rel =>
              refine ⟨k + 1, G', by omega, by go_num, HF1.out, fun j hj => ?_⟩
              rw [HG1.out j hj, HG.out j hj, HNX.out, List.any_append, Bool.or_assoc]
              simp
            case measure => simp [intOf]; omega
          · obtain rfl : k = x.args.length := by omega
            go_wp2_with fail
            go_end0
            refine HEND.out G wr HFS.out.box HFS.out.turn fun j hj => ?_
            have := HG.out j hj
            rw [List.take_length] at this
            exact this
  · have HRu := Lib.hid (show (decide (0 ≤ x.u) && decide (x.u ≤ 3)) = false from decU hru)
    have HMu := Lib.hid (show mark1 bs x.u (f) = f from if_neg fun q => hru q.1)
    have HFSu := Lib.hid hfs
    clear hfs hru
    go_wp2_with fail
    refine (specInB HRu.out _).mono ?_
    rintro e w1 ⟨rfl, hw1⟩
    obtain rfl := hw1.symm
    have hfs := HFSu.out
    by_cases hrv : 0 ≤ x.v ∧ x.v ≤ 3
    · have HRv := Lib.hid (show (decide (0 ≤ x.v) && decide (x.v ≤ 3)) = true from by rw [Bool.and_eq_true, decide_eq_true_iff, decide_eq_true_iff]; exact hrv)
      by_cases hhv : x.v ∈ bs
      · have HMv := Lib.hid (show mark1 bs x.v (f) = f from if_neg fun q => q.2 hhv)
        have HDv := Lib.hid (show decide (x.v ∈ bs) = true from decide_eq_true hhv)
        have HFSv := Lib.hid hfs
        clear hfs hhv hrv
        go_wp2_with fail
        refine (specInB HRv.out _).mono ?_
        rintro e w1 ⟨rfl, hw1⟩
        obtain rfl := hw1.symm
        go_wp2_with fail
        refine (specHas a cap bs _ _ hbl HFSv.out.row').mono ?_
        rw [HDv.out]
        rintro e W2 ⟨rfl, hbv⟩
        have hfs := HFSv.out.below hbv
        clear hbv
        try clear e2
        try clear e3
        have e2 : W2.cell? ⟨w.heap.size, 2, none⟩ = some (.int .i64 x.u) := hfs.par.c 2 _ rfl
        have e3 : W2.cell? ⟨w.heap.size, 3, none⟩ = some (.int .i64 x.v) := hfs.par.c 3 _ rfl
        replace hfs : FS w m x a (boundIn x.kd x.u bs) (markN x.kd x.u x.v bs f) W2 := by
          rw [hbe, show markN x.kd x.u x.v bs f = f from by unfold markN; rw [if_neg hnb, if_neg (by rw [HUS.out]; omega), if_neg (by rw [HUS.out]; omega), HMu.out, HMv.out]]
          exact hfs
        have HL := Lib.hid hfs
        clear hfs
        go_wp2_with fail
        go_loopw [7] (fun i wr => ∃ (k : Nat) (G : B4), k ≤ x.args.length ∧ i = .int .i64 k ∧ FS w m x a (boundIn x.kd x.u bs) G wr ∧ ∀ j : Int, 0 ≤ j ∧ j < 4 → G.get j = ((markN x.kd x.u x.v bs f).get j || ((x.args.take k).map Ft.er).any (Fm.freeF j (decide (j ∈ boundIn x.kd x.u bs))))) (fun i _ => x.args.length - (intOf i).toNat)
        case atStart => exact ⟨0, _, Nat.zero_le _, rfl, HL.out, fun j _ => by simp⟩
        case round =>
          obtain ⟨k, G, hk, rfl, hfs, hg⟩ := hrel
          have e4 : wr.cell? ⟨w.heap.size, 4, none⟩ = some (.slice x.a x.args.length x.cap) := hfs.par.c 4 _ rfl
          have HG := Lib.hid hg
          have HFS := Lib.hid hfs
          clear hg hfs
          by_cases hlt : k < x.args.length
          · obtain ⟨b, o, ha, hbW, hE0⟩ := HROW.out.node k hlt
            obtain ⟨c0, c1, c2, c3, c4⟩ := hE0.below (HFS.out.inn hm) hbW
            rw [ha] at e4
            have HI := Lib.hid (IH.out a cap hcap' G k hlt wr HFS.out)
            have hnx : (x.args.take (k + 1)).map Ft.er = (x.args.take k).map Ft.er ++ [x.args[k].er] := by
              rw [take_next x.args k hlt, List.map_append]
              rfl
            generalize x.args[k] = y at *
            have HNX := Lib.hid hnx
            have HHA := Lib.hid ha
            clear hE0 ha hnx
            go_wp2_with fail
            rw [hbe] at HI
            refine HI.out.mono ?_
            rw [← hbe]
            rintro e w1 ⟨G', rfl, hb1, ht1, hg1⟩
            have HF1 := Lib.hid (HFS.out.go hm ht1 hb1)
            have HG1 := Lib.hid hg1
            have hz1' := ht1.size
            clear hb1 ht1 hg1
            go_wp2_with fail
            go_roundw
            case rel =>
              refine ⟨k + 1, G', by omega, by go_num, HF1.out, fun j hj => ?_⟩
              rw [HG1.out j hj, HG.out j hj, HNX.out, List.any_append, Bool.or_assoc]
              simp
            case measure => simp [intOf]; omega
          · obtain rfl : k = x.args.length := by omega
            go_wp2_with fail
            go_end0
            refine HEND.out G wr HFS.out.box HFS.out.turn fun j hj => ?_
            have := HG.out j hj
            rw [List.take_length] at this
            exact this
      · obtain ⟨nv, hnv⟩ := Int.eq_ofNat_of_zero_le hrv.1
        have hn4v : nv < 4 := by omega
        have HMv := Lib.hid (show mark1 bs x.v (f) = (f).put (nv : Int) from by rw [← hnv]; exact if_pos ⟨hrv, hhv⟩)
        have HDv := Lib.hid (show decide (x.v ∈ bs) = false from decide_eq_false hhv)
        have HFSv := Lib.hid hfs
        have HNv := Lib.hid hnv
        clear hfs hhv hrv hnv
        go_wp2_with fail
        refine (specInB HRv.out _).mono ?_
        rintro e w1 ⟨rfl, hw1⟩
        obtain rfl := hw1.symm
        go_wp2_with fail
        refine (specHas a cap bs _ _ hbl HFSv.out.row').mono ?_
        rw [HDv.out]
        rintro e W2 ⟨rfl, hbv⟩
        have hfs0 := HFSv.out.below hbv
        clear hbv
        try clear e2
        try clear e3
        have e2 : W2.cell? ⟨w.heap.size, 3, none⟩ = some (.int .i64 (nv : Int)) := (hfs0.par.c 3 _ rfl).trans (congrArg (fun z : Int => some (Value.int .i64 z)) HNv.out)
        obtain ⟨qv, hcv⟩ := hfs0.cell nv hn4v
        have hfv := hfs0.box.f
        have hfs := hfs0.mark hm nv hn4v
        have eu : (W2.setCell ⟨m, nv, none⟩ (.bool true)).cell? ⟨w.heap.size, 2, none⟩ = some (.int .i64 x.u) := hfs.par.c 2 _ rfl
        have ev : (W2.setCell ⟨m, nv, none⟩ (.bool true)).cell? ⟨w.heap.size, 3, none⟩ = some (.int .i64 x.v) := hfs.par.c 3 _ rfl
        clear hfs0
        replace hfs : FS w m x a (boundIn x.kd x.u bs) (markN x.kd x.u x.v bs f) (W2.setCell ⟨m, nv, none⟩ (.bool true)) := by
          rw [hbe, show markN x.kd x.u x.v bs f = (f).put (nv : Int) from by unfold markN; rw [if_neg hnb, if_neg (by rw [HUS.out]; omega), if_neg (by rw [HUS.out]; omega), HMu.out, HMv.out]]
          exact hfs
        have HL := Lib.hid hfs
        clear hfs
        go_wp2_with fail
        go_loopw [7] (fun i wr => ∃ (k : Nat) (G : B4), k ≤ x.args.length ∧ i = .int .i64 k ∧ FS w m x a (boundIn x.kd x.u bs) G wr ∧ ∀ j : Int, 0 ≤ j ∧ j < 4 → G.get j = ((markN x.kd x.u x.v bs f).get j || ((x.args.take k).map Ft.er).any (Fm.freeF j (decide (j ∈ boundIn x.kd x.u bs))))) (fun i _ => x.args.length - (intOf i).toNat)
        case atStart => exact ⟨0, _, Nat.zero_le _, rfl, HL.out, fun j _ => by simp⟩
        case round =>
          obtain ⟨k, G, hk, rfl, hfs, hg⟩ := hrel
          have e4 : wr.cell? ⟨w.heap.size, 4, none⟩ = some (.slice x.a x.args.length x.cap) := hfs.par.c 4 _ rfl
          have HG := Lib.hid hg
          have HFS := Lib.hid hfs
          clear hg hfs
          by_cases hlt : k < x.args.length
          · obtain ⟨b, o, ha, hbW, hE0⟩ := HROW.out.node k hlt
            obtain ⟨c0, c1, c2, c3, c4⟩ := hE0.below (HFS.out.inn hm) hbW
            rw [ha] at e4
            have HI := Lib.hid (IH.out a cap hcap' G k hlt wr HFS.out)
            have hnx : (x.args.take (k + 1)).map Ft.er = (x.args.take k).map Ft.er ++ [x.args[k].er] := by
              rw [take_next x.args k hlt, List.map_append]
              rfl
            generalize x.args[k] = y at *
            have HNX := Lib.hid hnx
            have HHA := Lib.hid ha
            clear hE0 ha hnx
            go_wp2_with fail
            rw [hbe] at HI
            refine HI.out.mono ?_
            rw [← hbe]
            rintro e w1 ⟨G', rfl, hb1, ht1, hg1⟩
            have HF1 := Lib.hid (HFS.out.go hm ht1 hb1)
            have HG1 := Lib.hid hg1
            have hz1' := ht1.size
            clear hb1 ht1 hg1
            go_wp2_with fail
            go_roundw
            case rel =>
              refine ⟨k + 1, G', by omega, by go_num, HF1.out, fun j hj => ?_⟩
              rw [HG1.out j hj, HG.out j hj, HNX.out, List.any_append, Bool.or_assoc]
              simp
            case measure => simp [intOf]; omega
          · obtain rfl : k = x.args.length := by omega
            go_wp2_with fail
            go_end0
            refine HEND.out G wr HFS.out.box HFS.out.turn fun j hj => ?_
            have := HG.out j hj
            rw [List.take_length] at this
            exact this
    · have HRv := Lib.hid (show (decide (0 ≤ x.v) && decide (x.v ≤ 3)) = false from decU hrv)
      have HMv := Lib.hid (show mark1 bs x.v (f) = f from if_neg fun q => hrv q.1)
      have HFSv := Lib.hid hfs
      clear hfs hrv
      go_wp2_with fail
      refine (specInB HRv.out _).mono ?_
      rintro e w1 ⟨rfl, hw1⟩
      obtain rfl := hw1.symm
      have hfs := HFSv.out
      replace hfs : FS w m x a (boundIn x.kd x.u bs) (markN x.kd x.u x.v bs f) W0 := by
        rw [hbe, show markN x.kd x.u x.v bs f = f from by unfold markN; rw [if_neg hnb, if_neg (by rw [HUS.out]; omega), if_neg (by rw [HUS.out]; omega), HMu.out, HMv.out]]
        exact hfs
      have HL := Lib.hid hfs
      clear hfs
      go_wp2_with fail
      go_loopw [7] (fun i wr => ∃ (k : Nat) (G : B4), k ≤ x.args.length ∧ i = .int .i64 k ∧ FS w m x a (boundIn x.kd x.u bs) G wr ∧ ∀ j : Int, 0 ≤ j ∧ j < 4 → G.get j = ((markN x.kd x.u x.v bs f).get j || ((x.args.take k).map Ft.er).any (Fm.freeF j (decide (j ∈ boundIn x.kd x.u bs))))) (fun i _ => x.args.length - (intOf i).toNat)
      case atStart => exact ⟨0, _, Nat.zero_le _, rfl, HL.out, fun j _ => by simp⟩
      case round =>
        obtain ⟨k, G, hk, rfl, hfs, hg⟩ := hrel
        have e4 : wr.cell? ⟨w.heap.size, 4, none⟩ = some (.slice x.a x.args.length x.cap) := hfs.par.c 4 _ rfl
        have HG := Lib.hid hg
        have HFS := Lib.hid hfs
        clear hg hfs
        by_cases hlt : k < x.args.length
        · obtain ⟨b, o, ha, hbW, hE0⟩ := HROW.out.node k hlt
          obtain ⟨c0, c1, c2, c3, c4⟩ := hE0.below (HFS.out.inn hm) hbW
          rw [ha] at e4
          have HI := Lib.hid (IH.out a cap hcap' G k hlt wr HFS.out)
          have hnx : (x.args.take (k + 1)).map Ft.er = (x.args.take k).map Ft.er ++ [x.args[k].er] := by
            rw [take_next x.args k hlt, List.map_append]
            rfl
          generalize x.args[k] = y at *
          have HNX := Lib.hid hnx
          have HHA := Lib.hid ha
          clear hE0 ha hnx
          go_wp2_with fail
          rw [hbe] at HI
          refine HI.out.mono ?_
          rw [← hbe]
          rintro e w1 ⟨G', rfl, hb1, ht1, hg1⟩
          have HF1 := Lib.hid (HFS.out.go hm ht1 hb1)
          have HG1 := Lib.hid hg1
          have hz1' := ht1.size
          clear hb1 ht1 hg1
          go_wp2_with fail
          go_roundw
          case rel =>
            refine ⟨k + 1, G', by omega, by go_num, HF1.out, fun j hj => ?_⟩
            rw [HG1.out j hj, HG.out j hj, HNX.out, List.any_append, Bool.or_assoc]
            simp
          case measure => simp [intOf]; omega
        · obtain rfl : k = x.args.length := by omega
          go_wp2_with fail
          go_end0
          refine HEND.out G wr HFS.out.box HFS.out.turn fun j hj => ?_
          have := HG.out j hj
          rw [List.take_length] at this
          exact this

theorem lit_first (W : World) (u : Value) (t : TypeId) (o : Obj) : ((W.alloc (.cells #[u] t)).alloc o).cell? ⟨W.heap.size, 0, none⟩ = some u := ((BoxL.new W [u] t).below ((Below.refl _ _).alloc (Nat.le_refl _) o)).c 0 _ rfl
theorem lit_second (W : World) (o : Obj) (u : Value) (t : TypeId) : ((W.alloc o).alloc (.cells #[u] t)).cell? ⟨W.heap.size + 1, 0, none⟩ = some u := by
  simp
theorem keep_lit {w w' : World} {r : Option Nat} {g : Nat} {u : Value} {G : Prop} (h : w.grownBy w' r) (h1 : g < w.heap.size) (h2 : some g ≠ r) (h3 : w.cell? ⟨g, 0, none⟩ = some u) (k : w'.cell? ⟨g, 0, none⟩ = some u → G) : G :=
  k ((World.cell?_of_block (h.block g h1 h2)).trans h3)
theorem own_shapeF {w : World} {base e size n : Nat} {v : Value} {xs : List Value} (h : w.ownsRow base e size v n xs) : ∃ a c, v = .slice a n c ∧ n ≤ c := by
  rcases h.2 with ⟨rfl, rfl⟩ | ⟨g, cap, cur, rfl, _, _, hc, _⟩
  · exact ⟨_, _, rfl, Nat.le_refl _⟩
  · exact ⟨_, _, rfl, hc⟩
set_option maxRecDepth 100000 in
set_option maxHeartbeats 4000000 in
theorem specFreeB11 (x : Ft) (w : World) (a : Option Addr) (cap : Nat) (bs : List Int) (m : Nat) (f : B4) (hcap : a = none → cap = 0) (hlen : x.args.length ≤ 2 ^ 63 - 1) (hm : m < w.heap.size)
    (IH : Hid (∀ (a' : Option Addr) (cap' : Nat), (a' = none → cap' = 0) → ∀ (G : B4) (k : Nat) (hk : k < x.args.length) (W : World), FS w m x a' (boundIn x.kd x.u bs) G W → Calls Try.prog 49 #[x.args[k].val, .slice a' (boundIn x.kd x.u bs).length cap', .slice (some ⟨m, 0, none⟩) 4 4] W (Marked m G x.args[k].er (boundIn x.kd x.u bs) W)))
    (HROW : Hid (Row w m x.a (fmVals x.args)))
    (HEND : Hid (∀ (G : B4) (W : World), BoxL W m G.cells → Turn m (m + 1) w W → (∀ j : Int, 0 ≤ j ∧ j < 4 → G.get j = ((markN x.kd x.u x.v bs f).get j || (x.args.map Ft.er).any (Fm.freeF j (decide (j ∈ boundIn x.kd x.u bs))))) → Marked m f x.er bs w (.returned (.tuple #[])) W))
    (hbl : bs.length ≤ 1048576) (HFS0 : Hid (FS w m x a bs f (w.alloc (.cells #[.int .i64 x.kd, .int .i64 x.k, .int .i64 x.u, .int .i64 x.v, .slice x.a x.args.length x.cap] 26))))
    (hkd : x.kd = 11) : Calls Try.prog 49 #[x.val, .slice a bs.length cap, .slice (some ⟨m, 0, none⟩) 4 4] w (Marked m f x.er bs w) := by
  have hkb : x.kd = 11 ∨ x.kd = 12 := by omega
  have hbe : boundIn x.kd x.u bs = bs ++ [x.u] := if_pos hkb
  have hmk : markN x.kd x.u x.v bs f = f := if_pos hkb
  have hq11 : (x.kd == 11) = true := by rw [hkd]; rfl
  have hq12 : (x.kd == 12) = false := by rw [hkd]; rfl
  clear hkd hkb
  obtain ⟨i0, hi, hz0, hz1, hz2⟩ := info_parts num2Info
  go_enter Try.func49, Try.ntmps49
  go_wp2_with fail
  obtain ⟨W0, hW0⟩ : ∃ W0, w.alloc (.cells #[.int .i64 x.kd, .int .i64 x.k, .int .i64 x.u, .int .i64 x.v, .slice x.a x.args.length x.cap] 26) = W0 := ⟨_, rfl⟩
  have hfs : FS w m x a bs f W0 := hW0 ▸ HFS0.out
  have hsz : w.heap.size < W0.heap.size := by rw [← hW0]; simp
  rw [hW0]
  clear hW0 HFS0
  have e2 : W0.cell? ⟨w.heap.size, 2, none⟩ = some (.int .i64 x.u) := hfs.par.c 2 _ rfl
  have hAll : ∀ W, Below W0.heap.size W0 W → W.cell? ⟨w.heap.size, 2, none⟩ = some (.int .i64 x.u) := fun W h => (hfs.par.below h).c 2 _ rfl
  have hrw0 : Row W0 W0.heap.size a (intVals bs) := hfs.row'
  have hna' : a = none → bs.length = 0 ∧ cap = 0 := fun h => ⟨by subst h; have := row_nil hrw0; simpa [intVals] using this, hcap h⟩
  have HFS := Lib.hid hfs
  clear hfs
  have ea1 : ∀ o, (W0.alloc o).cell? ⟨w.heap.size, 2, none⟩ = some (.int .i64 x.u) := fun o => hAll _ ((Below.refl _ _).alloc (Nat.le_refl _) o)
  have ea2 : ∀ o o', ((W0.alloc o).alloc o').cell? ⟨w.heap.size, 2, none⟩ = some (.int .i64 x.u) := fun o o' => hAll _ (((Below.refl _ _).alloc (Nat.le_refl _) o).alloc (by simp) o')
  go_region_law
    (first
      | (refine step_append_row _ rfl (.tmp 16) (.tmp 17) 37 rfl W0.heap.size 3 i0 (.int .i64 0) 1 8 Try.underlying37 hi hz0 hz1 hz2 rfl (by decide) (.slice (some ⟨_, 0, none⟩) 0 0) 0 [] rfl (empty_own ?_ ?_) a bs.length cap (intVals bs) rfl hna' (by simp [intVals]) ?_ (intVals_onef bs) (by unfold maxLen; omega) (by omega) ?_ ?_
         · repeat (first | with_reducible exact emp_at rfl | (refine emp_at ?_; simp; done) | with_reducible refine emp_drew ?_ | with_reducible refine emp_keep ?_ _)
         · first | exact Nat.le_refl _ | omega | (simp; done) | (simp; omega)
         · exact row_news (hrw0.below (by repeat (first | with_reducible exact Below.refl _ _ | with_reducible exact H6 | with_reducible refine Below.drew ?_ | refine Below.alloc ?_ (by first | omega | exact H6.size | exact Nat.le_trans H6.size (by simp) | (simp; done)) _)))
         · first | exact Nat.le_refl _ | (simp; done) | (simp; omega)
         intro v6 w6 own6 hg6 hat6 hbw6
         simp only [Nat.zero_add, List.nil_append] at own6
         obtain ⟨a6, c6, rfl, hc6⟩ := own_shapeF own6
         have H6 : Below W0.heap.size W0 w6 := Below.trans (by repeat (first | with_reducible exact Below.refl _ _ | with_reducible exact H6 | with_reducible refine Below.drew ?_ | refine Below.alloc ?_ (by first | omega | exact H6.size | exact Nat.le_trans H6.size (by simp) | (simp; done)) _)) hbw6
         (try (refine keep_lit (g := W0.heap.size) (u := .int .i64 x.u) hg6 ?_ ?_ ?_ (fun lit0 => ?_); (focus (first | (simp; done) | (simp; omega))); (focus (first | (simp [Value.ownBlock]; done) | (simp [Value.ownBlock]; omega))); (focus (first | (simp [go_sem]; done) | exact lit_first W0 _ _ _ | exact lit_second W0 _ _ _))))
         (try (refine keep_lit (g := W0.heap.size + 1) (u := .int .i64 x.u) hg6 ?_ ?_ ?_ (fun lit1 => ?_); (focus (first | (simp; done) | (simp; omega))); (focus (first | (simp [Value.ownBlock]; done) | (simp [Value.ownBlock]; omega))); (focus (first | (simp [go_sem]; done) | exact lit_first W0 _ _ _ | exact lit_second W0 _ _ _))))
         have f6 := hAll _ H6
         have f61 : ∀ o, (w6.alloc o).cell? ⟨w.heap.size, 2, none⟩ = some (.int .i64 x.u) := fun o => hAll _ (H6.alloc H6.size o)
         have s6 := hg6.size
         try simp at s6)
      | (refine step_append_row _ rfl (.tmp 18) (.tmp 21) 37 rfl W0.heap.size 3 i0 (.int .i64 0) 1 8 Try.underlying37 hi hz0 hz1 hz2 rfl (by decide) (.slice a6 bs.length c6) bs.length (intVals bs) rfl (own_keeps own6 (by repeat (first | with_reducible exact Below.refl _ _ | with_reducible refine Below.drew ?_ | refine Below.alloc ?_ (by first | omega | exact Nat.le_refl _ | (simp; done)) _))) (some ⟨_, 0, none⟩) 1 1 [.int .i64 x.u] rfl (fun e => by cases e) rfl ?_ (oneCell_int _) (by unfold maxLen; omega) (by omega) ?_ ?_
         · intro ad e j u hj
           cases e
           first
             | exact oneCell_at _ j u hj
             | (cases j with
                | zero => first | (exact lit0.trans hj) | (exact lit1.trans hj) | (trace_state; fail)
                | succ j => simp at hj)
         · first | exact H6.size | exact Nat.le_trans H6.size (by simp) | (simp; omega)
         intro v7 w7 own7 hg7 hat7 hbw7
         obtain ⟨a7, c7, rfl, hc7⟩ := own_shapeF own7
         have H7 : Below W0.heap.size W0 w7 := Below.trans (by repeat (first | with_reducible exact Below.refl _ _ | with_reducible exact H6 | with_reducible refine Below.drew ?_ | refine Below.alloc ?_ (by first | omega | exact H6.size | exact Nat.le_trans H6.size (by simp) | (simp; done)) _)) hbw7))
  all_goals
    have hcap' : a7 = none → c7 = 0 := own_none own7
    have hfs : FS w m x a7 (boundIn x.kd x.u bs) (markN x.kd x.u x.v bs f) w7 := by
      have h1 := HFS.out.below H7
      rw [hbe, hmk]
      refine ⟨h1.box, h1.turn, h1.par, ⟨w7.heap.size, ?_⟩⟩
      rw [intVals_snoc]
      exact ((OwnIn.of own7).mono (by omega) (Nat.le_refl _) (Nat.le_refl _)).rowIn
    clear own7 H7 HFS
    try clear own6
    try clear H6
    have HL := Lib.hid hfs
    clear hfs
    go_wp2_with fail
    go_loopw [7] (fun i wr => ∃ (k : Nat) (G : B4), k ≤ x.args.length ∧ i = .int .i64 k ∧ FS w m x a7 (boundIn x.kd x.u bs) G wr ∧ ∀ j : Int, 0 ≤ j ∧ j < 4 → G.get j = ((markN x.kd x.u x.v bs f).get j || ((x.args.take k).map Ft.er).any (Fm.freeF j (decide (j ∈ boundIn x.kd x.u bs))))) (fun i _ => x.args.length - (intOf i).toNat)
    case atStart => exact ⟨0, _, Nat.zero_le _, rfl, HL.out, fun j _ => by simp⟩
    case round =>
      obtain ⟨k, G, hk, rfl, hfs, hg⟩ := hrel
      have e4 : wr.cell? ⟨w.heap.size, 4, none⟩ = some (.slice x.a x.args.length x.cap) := hfs.par.c 4 _ rfl
      have HG := Lib.hid hg
      have HFS := Lib.hid hfs
      clear hg hfs
      by_cases hlt : k < x.args.length
      · obtain ⟨b, o, ha, hbW, hE0⟩ := HROW.out.node k hlt
        obtain ⟨c0, c1, c2, c3, c4⟩ := hE0.below (HFS.out.inn hm) hbW
        rw [ha] at e4
        have HI := Lib.hid (IH.out a7 c7 hcap' G k hlt wr HFS.out)
        have hnx : (x.args.take (k + 1)).map Ft.er = (x.args.take k).map Ft.er ++ [x.args[k].er] := by
          rw [take_next x.args k hlt, List.map_append]
          rfl
        generalize x.args[k] = y at *
        have HNX := Lib.hid hnx
        have HHA := Lib.hid ha
        clear hE0 ha hnx
        go_wp2_with fail
        rw [hbe] at HI
        simp only [List.length_append, List.length_cons, List.length_nil, Nat.zero_add] at HI
        refine HI.out.mono ?_
        rw [← hbe]
        rintro e w1 ⟨G', rfl, hb1, ht1, hg1⟩
        have HF1 := Lib.hid (HFS.out.go hm ht1 hb1)
        have HG1 := Lib.hid hg1
        have hz1' := ht1.size
        clear hb1 ht1 hg1
        go_wp2_with fail
        go_roundw
        case rel =>
          refine ⟨k + 1, G', by omega, by go_num, HF1.out, fun j hj => ?_⟩
          rw [HG1.out j hj, HG.out j hj, HNX.out, List.any_append, Bool.or_assoc]
          simp
        case measure => simp [intOf]; omega
      · obtain rfl : k = x.args.length := by omega
        go_wp2_with fail
        go_end0
        refine HEND.out G wr HFS.out.box HFS.out.turn fun j hj => ?_
        have := HG.out j hj
        rw [List.take_length] at this
        exact this

set_option maxRecDepth 100000 in
set_option maxHeartbeats 4000000 in
theorem specFreeB12 (x : Ft) (w : World) (a : Option Addr) (cap : Nat) (bs : List Int) (m : Nat) (f : B4) (hcap : a = none → cap = 0) (hlen : x.args.length ≤ 2 ^ 63 - 1) (hm : m < w.heap.size)
    (IH : Hid (∀ (a' : Option Addr) (cap' : Nat), (a' = none → cap' = 0) → ∀ (G : B4) (k : Nat) (hk : k < x.args.length) (W : World), FS w m x a' (boundIn x.kd x.u bs) G W → Calls Try.prog 49 #[x.args[k].val, .slice a' (boundIn x.kd x.u bs).length cap', .slice (some ⟨m, 0, none⟩) 4 4] W (Marked m G x.args[k].er (boundIn x.kd x.u bs) W)))
    (HROW : Hid (Row w m x.a (fmVals x.args)))
    (HEND : Hid (∀ (G : B4) (W : World), BoxL W m G.cells → Turn m (m + 1) w W → (∀ j : Int, 0 ≤ j ∧ j < 4 → G.get j = ((markN x.kd x.u x.v bs f).get j || (x.args.map Ft.er).any (Fm.freeF j (decide (j ∈ boundIn x.kd x.u bs))))) → Marked m f x.er bs w (.returned (.tuple #[])) W))
    (hbl : bs.length ≤ 1048576) (HFS0 : Hid (FS w m x a bs f (w.alloc (.cells #[.int .i64 x.kd, .int .i64 x.k, .int .i64 x.u, .int .i64 x.v, .slice x.a x.args.length x.cap] 26))))
    (hkd : x.kd = 12) : Calls Try.prog 49 #[x.val, .slice a bs.length cap, .slice (some ⟨m, 0, none⟩) 4 4] w (Marked m f x.er bs w) := by
  have hkb : x.kd = 11 ∨ x.kd = 12 := by omega
  have hbe : boundIn x.kd x.u bs = bs ++ [x.u] := if_pos hkb
  have hmk : markN x.kd x.u x.v bs f = f := if_pos hkb
  have hq11 : (x.kd == 11) = false := by rw [hkd]; rfl
  have hq12 : (x.kd == 12) = true := by rw [hkd]; rfl
  clear hkd hkb
  obtain ⟨i0, hi, hz0, hz1, hz2⟩ := info_parts num2Info
  go_enter Try.func49, Try.ntmps49
  go_wp2_with fail
  obtain ⟨W0, hW0⟩ : ∃ W0, w.alloc (.cells #[.int .i64 x.kd, .int .i64 x.k, .int .i64 x.u, .int .i64 x.v, .slice x.a x.args.length x.cap] 26) = W0 := ⟨_, rfl⟩
  have hfs : FS w m x a bs f W0 := hW0 ▸ HFS0.out
  have hsz : w.heap.size < W0.heap.size := by rw [← hW0]; simp
  rw [hW0]
  clear hW0 HFS0
  have e2 : W0.cell? ⟨w.heap.size, 2, none⟩ = some (.int .i64 x.u) := hfs.par.c 2 _ rfl
  have hAll : ∀ W, Below W0.heap.size W0 W → W.cell? ⟨w.heap.size, 2, none⟩ = some (.int .i64 x.u) := fun W h => (hfs.par.below h).c 2 _ rfl
  have hrw0 : Row W0 W0.heap.size a (intVals bs) := hfs.row'
  have hna' : a = none → bs.length = 0 ∧ cap = 0 := fun h => ⟨by subst h; have := row_nil hrw0; simpa [intVals] using this, hcap h⟩
  have HFS := Lib.hid hfs
  clear hfs
  have ea1 : ∀ o, (W0.alloc o).cell? ⟨w.heap.size, 2, none⟩ = some (.int .i64 x.u) := fun o => hAll _ ((Below.refl _ _).alloc (Nat.le_refl _) o)
  have ea2 : ∀ o o', ((W0.alloc o).alloc o').cell? ⟨w.heap.size, 2, none⟩ = some (.int .i64 x.u) := fun o o' => hAll _ (((Below.refl _ _).alloc (Nat.le_refl _) o).alloc (by simp) o')
  go_region_law
    (first
      | (refine step_append_row _ rfl (.tmp 16) (.tmp 17) 37 rfl W0.heap.size 3 i0 (.int .i64 0) 1 8 Try.underlying37 hi hz0 hz1 hz2 rfl (by decide) (.slice (some ⟨_, 0, none⟩) 0 0) 0 [] rfl (empty_own ?_ ?_) a bs.length cap (intVals bs) rfl hna' (by simp [intVals]) ?_ (intVals_onef bs) (by unfold maxLen; omega) (by omega) ?_ ?_
         · repeat (first | with_reducible exact emp_at rfl | (refine emp_at ?_; simp; done) | with_reducible refine emp_drew ?_ | with_reducible refine emp_keep ?_ _)
         · first | exact Nat.le_refl _ | omega | (simp; done) | (simp; omega)
         · exact row_news (hrw0.below (by repeat (first | with_reducible exact Below.refl _ _ | with_reducible exact H6 | with_reducible refine Below.drew ?_ | refine Below.alloc ?_ (by first | omega | exact H6.size | exact Nat.le_trans H6.size (by simp) | (simp; done)) _)))
         · first | exact Nat.le_refl _ | (simp; done) | (simp; omega)
         intro v6 w6 own6 hg6 hat6 hbw6
         simp only [Nat.zero_add, List.nil_append] at own6
         obtain ⟨a6, c6, rfl, hc6⟩ := own_shapeF own6
         have H6 : Below W0.heap.size W0 w6 := Below.trans (by repeat (first | with_reducible exact Below.refl _ _ | with_reducible exact H6 | with_reducible refine Below.drew ?_ | refine Below.alloc ?_ (by first | omega | exact H6.size | exact Nat.le_trans H6.size (by simp) | (simp; done)) _)) hbw6
         (try (refine keep_lit (g := W0.heap.size) (u := .int .i64 x.u) hg6 ?_ ?_ ?_ (fun lit0 => ?_); (focus (first | (simp; done) | (simp; omega))); (focus (first | (simp [Value.ownBlock]; done) | (simp [Value.ownBlock]; omega))); (focus (first | (simp [go_sem]; done) | exact lit_first W0 _ _ _ | exact lit_second W0 _ _ _))))
         (try (refine keep_lit (g := W0.heap.size + 1) (u := .int .i64 x.u) hg6 ?_ ?_ ?_ (fun lit1 => ?_); (focus (first | (simp; done) | (simp; omega))); (focus (first | (simp [Value.ownBlock]; done) | (simp [Value.ownBlock]; omega))); (focus (first | (simp [go_sem]; done) | exact lit_first W0 _ _ _ | exact lit_second W0 _ _ _))))
         have f6 := hAll _ H6
         have f61 : ∀ o, (w6.alloc o).cell? ⟨w.heap.size, 2, none⟩ = some (.int .i64 x.u) := fun o => hAll _ (H6.alloc H6.size o)
         have s6 := hg6.size
         try simp at s6)
      | (refine step_append_row _ rfl (.tmp 18) (.tmp 21) 37 rfl W0.heap.size 3 i0 (.int .i64 0) 1 8 Try.underlying37 hi hz0 hz1 hz2 rfl (by decide) (.slice a6 bs.length c6) bs.length (intVals bs) rfl (own_keeps own6 (by repeat (first | with_reducible exact Below.refl _ _ | with_reducible refine Below.drew ?_ | refine Below.alloc ?_ (by first | omega | exact Nat.le_refl _ | (simp; done)) _))) (some ⟨_, 0, none⟩) 1 1 [.int .i64 x.u] rfl (fun e => by cases e) rfl ?_ (oneCell_int _) (by unfold maxLen; omega) (by omega) ?_ ?_
         · intro ad e j u hj
           cases e
           first
             | exact oneCell_at _ j u hj
             | (cases j with
                | zero => first | (exact lit0.trans hj) | (exact lit1.trans hj) | (trace_state; fail)
                | succ j => simp at hj)
         · first | exact H6.size | exact Nat.le_trans H6.size (by simp) | (simp; omega)
         intro v7 w7 own7 hg7 hat7 hbw7
         obtain ⟨a7, c7, rfl, hc7⟩ := own_shapeF own7
         have H7 : Below W0.heap.size W0 w7 := Below.trans (by repeat (first | with_reducible exact Below.refl _ _ | with_reducible exact H6 | with_reducible refine Below.drew ?_ | refine Below.alloc ?_ (by first | omega | exact H6.size | exact Nat.le_trans H6.size (by simp) | (simp; done)) _)) hbw7))
  all_goals
    have hcap' : a7 = none → c7 = 0 := own_none own7
    have hfs : FS w m x a7 (boundIn x.kd x.u bs) (markN x.kd x.u x.v bs f) w7 := by
      have h1 := HFS.out.below H7
      rw [hbe, hmk]
      refine ⟨h1.box, h1.turn, h1.par, ⟨w7.heap.size, ?_⟩⟩
      rw [intVals_snoc]
      exact ((OwnIn.of own7).mono (by omega) (Nat.le_refl _) (Nat.le_refl _)).rowIn
    clear own7 H7 HFS
    try clear own6
    try clear H6
    have HL := Lib.hid hfs
    clear hfs
    go_wp2_with fail
    go_loopw [7] (fun i wr => ∃ (k : Nat) (G : B4), k ≤ x.args.length ∧ i = .int .i64 k ∧ FS w m x a7 (boundIn x.kd x.u bs) G wr ∧ ∀ j : Int, 0 ≤ j ∧ j < 4 → G.get j = ((markN x.kd x.u x.v bs f).get j || ((x.args.take k).map Ft.er).any (Fm.freeF j (decide (j ∈ boundIn x.kd x.u bs))))) (fun i _ => x.args.length - (intOf i).toNat)
    case atStart => exact ⟨0, _, Nat.zero_le _, rfl, HL.out, fun j _ => by simp⟩
    case round =>
      obtain ⟨k, G, hk, rfl, hfs, hg⟩ := hrel
      have e4 : wr.cell? ⟨w.heap.size, 4, none⟩ = some (.slice x.a x.args.length x.cap) := hfs.par.c 4 _ rfl
      have HG := Lib.hid hg
      have HFS := Lib.hid hfs
      clear hg hfs
      by_cases hlt : k < x.args.length
      · obtain ⟨b, o, ha, hbW, hE0⟩ := HROW.out.node k hlt
        obtain ⟨c0, c1, c2, c3, c4⟩ := hE0.below (HFS.out.inn hm) hbW
        rw [ha] at e4
        have HI := Lib.hid (IH.out a7 c7 hcap' G k hlt wr HFS.out)
        have hnx : (x.args.take (k + 1)).map Ft.er = (x.args.take k).map Ft.er ++ [x.args[k].er] := by
          rw [take_next x.args k hlt, List.map_append]
          rfl
        generalize x.args[k] = y at *
        have HNX := Lib.hid hnx
        have HHA := Lib.hid ha
        clear hE0 ha hnx
        go_wp2_with fail
        rw [hbe] at HI
        simp only [List.length_append, List.length_cons, List.length_nil, Nat.zero_add] at HI
        refine HI.out.mono ?_
        rw [← hbe]
        rintro e w1 ⟨G', rfl, hb1, ht1, hg1⟩
        have HF1 := Lib.hid (HFS.out.go hm ht1 hb1)
        have HG1 := Lib.hid hg1
        have hz1' := ht1.size
        clear hb1 ht1 hg1
        go_wp2_with fail
        go_roundw
        case rel =>
          refine ⟨k + 1, G', by omega, by go_num, HF1.out, fun j hj => ?_⟩
          rw [HG1.out j hj, HG.out j hj, HNX.out, List.any_append, Bool.or_assoc]
          simp
        case measure => simp [intOf]; omega
      · obtain rfl : k = x.args.length := by omega
        go_wp2_with fail
        go_end0
        refine HEND.out G wr HFS.out.box HFS.out.turn fun j hj => ?_
        have := HG.out j hj
        rw [List.take_length] at this
        exact this

theorem specFree : ∀ x : Ft, ∀ (w : World) (a : Option Addr) (cap : Nat) (bs : List Int) (m : Nat) (f : B4), x.Short → bs.length + x.er.depth ≤ 1048577 → x.In w m → (∃ hi, RowIn (m + 1) hi w a (intVals bs)) → (a = none → cap = 0) → BoxL w m f.cells →
    Calls Try.prog 49 #[x.val, .slice a bs.length cap, .slice (some ⟨m, 0, none⟩) 4 4] w (Marked m f x.er bs w) := by
  apply Ft.ind
  intro x ih w a cap bs m f hs hd hin hrow hcap hbox
  have hs' := (Ft.short_iff x).1 hs
  have hlen := hs'.1
  unfold maxLen at hlen
  have hm := hbox.lt
  have hde := Ft.depth_er x
  have hfs0 : FS w m x a bs f (w.alloc (.cells #[.int .i64 x.kd, .int .i64 x.k, .int .i64 x.u, .int .i64 x.v, .slice x.a x.args.length x.cap] 26)) :=
    have hal := (Below.refl w.heap.size w).alloc (Nat.le_refl _) (.cells #[.int .i64 x.kd, .int .i64 x.k, .int .i64 x.u, .int .i64 x.v, .slice x.a x.args.length x.cap] 26)
    ⟨hbox.below hal, Turn.of_below hal, BoxL.new w x.cells _, hrow.imp fun _ r => r.below hal⟩
  have IH := Lib.hid (fun (a' : Option Addr) (cap' : Nat) (hc' : a' = none → cap' = 0) (G : B4) (k : Nat) (hk : k < x.args.length) (W : World) (h : FS w m x a' (boundIn x.kd x.u bs) G W) => ih x.args[k] (List.getElem_mem hk) W a' cap' (boundIn x.kd x.u bs) m G (hs'.2 _ (List.getElem_mem hk)) (by
    have h1 := Fm.depth_mem (x.args.map Ft.er) _ (List.mem_map.2 ⟨_, List.getElem_mem hk, rfl⟩)
    have h2 : (boundIn x.kd x.u bs).length ≤ bs.length + 1 := by
      unfold boundIn
      split <;> simp
    omega) (Ft.In.below (h.inn hm) (Nat.le_refl _) _ (hin.part (List.getElem_mem hk))) h.row hc' h.box)
  have HROW := Lib.hid hin.row
  have HEND := Lib.hid (show ∀ (G : B4) (W : World), BoxL W m G.cells → Turn m (m + 1) w W → (∀ j : Int, 0 ≤ j ∧ j < 4 → G.get j = ((markN x.kd x.u x.v bs f).get j || (x.args.map Ft.er).any (Fm.freeF j (decide (j ∈ boundIn x.kd x.u bs))))) → Marked m f x.er bs w (.returned (.tuple #[])) W from fun G W h1 h2 h3 => ⟨G, rfl, h1, h2, fun j hj => by rw [h3 j hj, markN_get _ _ _ _ _ _ hj, boundIn_mem, Ft.freeF_eq, Bool.or_assoc]⟩)
  have hbl : bs.length ≤ 1048576 := by omega
  have HRW := Lib.hid hrow
  clear ih hin hs hs' hde hd hrow hbox
  have HFS0 := Lib.hid hfs0
  clear hfs0
  by_cases hk1 : x.kd = 11
  · exact specFreeB11 x w a cap bs m f hcap hlen hm IH HROW HEND hbl HFS0 hk1
  · by_cases hk2 : x.kd = 12
    · exact specFreeB12 x w a cap bs m f hcap hlen hm IH HROW HEND hbl HFS0 hk2
    · have hnb : ¬ (x.kd = 11 ∨ x.kd = 12) := by omega
      have hu3 : usesF x.kd = 0 ∨ usesF x.kd = 1 ∨ usesF x.kd = 2 := by
        unfold usesF
        split
        · omega
        · split <;> omega
      rcases hu3 with h | h | h
      · exact specFree0 x w a cap bs m f hcap hlen hm IH HROW HEND hbl HFS0 hnb (Lib.hid h)
      · exact specFree1 x w a cap bs m f hcap hlen hm IH HROW HEND hbl HFS0 hnb (Lib.hid h)
      · exact specFree2 x w a cap bs m f hcap hlen hm IH HROW HEND hbl HFS0 hnb (Lib.hid h)
end Go.Proofs.Ythhhmlohfhioeaa
