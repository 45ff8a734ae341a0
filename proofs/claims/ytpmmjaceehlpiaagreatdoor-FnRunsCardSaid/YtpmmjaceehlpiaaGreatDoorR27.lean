/-
  Several texts of one proof in one file, in the order in which they build.
-/
import Derived.Laws.CopyOwn
import Derived.Deep.RegionLaw
import Derived.Maps.OwnOps
import Derived.DeepKeys4
import Derived.BigQuiet
import Derived.Deep.QuietTactic
import Derived.Test.YtpmmjaceehlpiaaGreatDoorR01
import Derived.Test.YtpmmjaceehlpiaaGreatDoorR12
import Derived.Test.YtpmmjaceehlpiaaGreatDoorR11
import Derived.Test.YtpmmjaceehlpiaaGreatDoorR18
import Derived.Test.YtpmmjaceehlpiaaGreatDoorR08
import Derived.Test.YtpmmjaceehlpiaaGreatDoorR19
import Derived.Test.YtpmmjaceehlpiaaGreatDoorR06
import Derived.Test.YtpmmjaceehlpiaaGreatDoorR22
import Derived.Test.YtpmmjaceehlpiaaGreatDoorR25
import Derived.Test.YtpmmjaceehlpiaaGreatDoorR10
import Derived.Test.YtpmmjaceehlpiaaGreatDoorR26
/-
  A row of one's own that is nil.
-/
namespace Go.Proofs.YtpmmjaceehlpiaaGreatDoor
open Go Go.RowKit

theorem own_nils {w : World} {base e size n : Nat} {a : Option Addr} {c : Nat} {xs : List Value} (h : w.ownsRow base e size (.slice a n c) n xs) : a = none → n = 0 ∧ c = 0 := by
  intro ha
  rcases h.2 with ⟨hv, h0⟩ | ⟨g, cap, cur, hv, _⟩
  · injection hv with _ _ h2
    exact ⟨h0, h2⟩
  · injection hv with h1
    rw [ha] at h1
    cases h1
end Go.Proofs.YtpmmjaceehlpiaaGreatDoor
/-
  The program's lists of numbers from -1 on: longer ones out of shorter ones, in lexicographic order.
-/
namespace Go.Proofs.YtpmmjaceehlpiaaGreatDoor
open Go Go.RowKit Go.ChangeShapes Go.WideShapes Go.ChangeAt

def tailsT (l : List Int) (j : Nat) : List (List Int) := (List.range j).map fun (i : Nat) => l ++ [(i : Int) - 1]
theorem tailsT_next (l : List Int) (j : Nat) : tailsT l (j + 1) = tailsT l j ++ [l ++ [(j : Int) - 1]] := by simp [tailsT, List.range_succ]
def stepT (m : Nat) (ls : List (List Int)) : List (List Int) := ls.flatMap fun l => tailsT l m
theorem stepT_next (m : Nat) (ls : List (List Int)) (i : Nat) (h : i < ls.length) : stepT m (ls.take (i + 1)) = stepT m (ls.take i) ++ tailsT ls[i] m := by
  unfold stepT
  rw [take_next ls i h, List.flatMap_append]
  simp
theorem stepT_cons (m : Nat) (x : Int) : ∀ ls : List (List Int), stepT m (ls.map fun l => x :: l) = (stepT m ls).map fun l => x :: l
  | [] => rfl
  | l :: ls => by
    have ih := stepT_cons m x ls
    unfold stepT at *
    rw [List.map_cons, List.flatMap_cons, List.flatMap_cons, List.map_append, ih]
    congr 1
    simp [tailsT, Function.comp_def]
theorem stepT_append (m : Nat) (a b : List (List Int)) : stepT m (a ++ b) = stepT m a ++ stepT m b := by simp [stepT]
theorem stepT_rows (m : Nat) (less : List (List Int)) : ∀ i, stepT m (rowsS less i) = rowsS (stepT m less) i
  | 0 => by simp [rowsS, stepT]
  | i + 1 => by rw [rowsS_next, rowsS_next, stepT_append, stepT_rows m less i, stepT_cons]
/-- A list more at the end, or at the head: the same lists in the same order. -/
theorem stepT_lists (m : Nat) : ∀ n, stepT m (listsS m n) = listsS m (n + 1)
  | 0 => by
    show stepT m [[]] = rowsS [[]] m
    simp [stepT, tailsT, rowsS]
    induction m with
    | zero => rfl
    | succ m ih => simp [List.range_succ, ih]
  | n + 1 => by
    show stepT m (rowsS (listsS m n) m) = rowsS (listsS m (n + 1)) m
    rw [stepT_rows, stepT_lists m n]

theorem tailsT_length (l : List Int) (j : Nat) : (tailsT l j).length = j := by simp [tailsT]
theorem stepT_length (m : Nat) : ∀ ls : List (List Int), (stepT m ls).length = ls.length * m
  | [] => by simp [stepT]
  | l :: ls => by
    have ih := stepT_length m ls
    unfold stepT at *
    rw [List.flatMap_cons, List.length_append, ih, tailsT_length, List.length_cons, Nat.add_mul, Nat.one_mul, Nat.add_comm]
theorem room_t {m i j n : Nat} (h : i < n) (hj : j < m) : i * m + j + 1 ≤ n * m := by
  have h1 : (i + 1) * m ≤ n * m := Nat.mul_le_mul_right _ h
  rw [Nat.add_mul, Nat.one_mul] at h1
  omega
theorem own_pos {w : World} {base e size n : Nat} {v : Value} {xs : List Value} (h : w.ownsRow base e size v (n + 1) xs) : ∃ g cap, v = .slice (some ⟨g, 0, none⟩) (n + 1) cap := by
  rcases h.2 with ⟨_, h0⟩ | ⟨g, cap, cur, rfl, _⟩
  · omega
  · exact ⟨g, cap, rfl⟩

/-- A list of numbers, and where it lies: nil let in. -/
structure Lo where
  a : Option Addr
  c : Nat
  xs : List Int
def loCells (x : Lo) : List Value := [.slice x.a x.xs.length x.c]
theorem loCells_length (x : Lo) : (loCells x).length = 1 := rfl
structure LosAt (W : World) (a : Option Addr) (os : List Lo) : Prop where
  row : Row W W.heap.size a (fl loCells os)
  each : ∀ x ∈ os, Row W W.heap.size x.a (intVals x.xs)
theorem LosAt.below {W W' : World} {a : Option Addr} {os : List Lo} (h : LosAt W a os) (hb : Below W.heap.size W W') : LosAt W' a os :=
  ⟨(h.row.below hb).grow hb.size, fun x hx => ((h.each x hx).below hb).grow hb.size⟩
theorem LosAt.item {W : World} {a : Option Addr} {os : List Lo} (h : LosAt W a os) (k : Nat) (hk : k < os.length) : (∃ b o, a = some ⟨b, o, none⟩ ∧ b < W.heap.size ∧ W.cell? ⟨b, o + k, none⟩ = some (.slice os[k].a os[k].xs.length os[k].c)) ∧ Row W W.heap.size os[k].a (intVals os[k].xs) := by
  obtain ⟨b, o, e, hl, hc⟩ := Row.item loCells_length (by omega) h.row k hk
  have := hc 0 _ rfl
  simp only [Nat.mul_one, Nat.add_zero] at this
  exact ⟨⟨b, o, e, hl, this⟩, h.each _ (List.getElem_mem hk)⟩
def GaveLos (bs : List (List Int)) (w : World) (e : Ending) (w' : World) : Prop :=
  ∃ (a : Option Addr) (cap : Nat) (os : List Lo), os.map Lo.xs = bs ∧ e = .returned (.slice a os.length cap) ∧ LosAt w' a os ∧ Below w.heap.size w w'
def Lp.lo_ (x : Lp) : Lo := ⟨some ⟨x.g, 0, none⟩, x.c, x.xs⟩
theorem lo_vals : ∀ os : List Lp, fl loCells (os.map Lp.lo_) = lpVals os
  | [] => rfl
  | x :: os => by
    have ih := lo_vals os
    rw [List.map_cons, fl_cons, ih]
    rfl

/-- What has been made since W1. -/
def OutT (W1 : World) (bs : List (List Int)) (v : Value) (wr : World) : Prop :=
  ∃ os : List Lp, os.map Lp.xs = bs ∧ wr.ownsRow W1.heap.size 28 1 v os.length (lpVals os) ∧ (∀ x ∈ os, x.At W1.heap.size wr ∧ v.ownBlock ≠ some x.g) ∧ Below W1.heap.size W1 wr
theorem OutT.start (W1 : World) : OutT W1 [] (.slice none 0 0) W1 := ⟨[], rfl, World.ownsRow_nil _ _ _ _, fun x hx => by simp at hx, Below.refl _ _⟩
theorem own_at {W : World} {base e size n : Nat} {v : Value} {xs : List Value} (h : W.ownsRow base e size v n xs) : ∃ a c, v = .slice a n c ∧ Row W W.heap.size a xs := by
  obtain ⟨a, c, rfl⟩ := own_shape2 h
  exact ⟨a, c, rfl, (OwnIn.of h).row⟩
theorem outT_zero {W1 wr : World} {bs : List (List Int)} {v : Value} (l : List Int) (h : OutT W1 bs v wr) : OutT W1 (bs ++ tailsT l 0) v wr := by simpa [tailsT] using h
/-- One list more. -/
theorem outT_next {W1 wr w' : World} {bs : List (List Int)} {v v' : Value} {f : List Int} {os : List Lp} {G c : Nat} (hos : os.map Lp.xs = bs) (ho : wr.ownsRow W1.heap.size 28 1 v os.length (lpVals os)) (hx : ∀ x ∈ os, x.At W1.heap.size wr ∧ v.ownBlock ≠ some x.g) (hb1 : Below W1.heap.size W1 wr)
    (hz : wr.heap.size ≤ w'.heap.size) (hb : ∀ k, k < wr.heap.size → v.ownBlock ≠ some k → w'.heap[k]? = wr.heap[k]?) (hos' : w'.os = wr.os) (htp : w'.tape = wr.tape) (hout : w'.output = wr.output)
    (hG : wr.heap.size ≤ G) (hGl : G < w'.heap.size) (hGn : v'.ownBlock ≠ some G) (hrow : Row w' w'.heap.size (some ⟨G, 0, none⟩) (intVals f)) (hv : v'.ownBlock = v.ownBlock ∨ ∃ k, v'.ownBlock = some k ∧ wr.heap.size ≤ k)
    (hown : w'.ownsRow W1.heap.size 28 1 v' (os.length + 1) (lpVals os ++ [.slice (some ⟨G, 0, none⟩) f.length c])) : OutT W1 (bs ++ [f]) v' w' := by
  have hs1 := hb1.size
  refine ⟨os ++ [⟨G, c, f⟩], by rw [List.map_append, hos]; rfl, ?_, ?_, ⟨hos'.trans hb1.os, htp.trans hb1.tape, hout.trans hb1.output, Nat.le_trans hs1 hz, fun q hq => (hb q (Nat.lt_of_lt_of_le hq hs1) fun e => by have := (ho.lt q e).1; omega).trans (hb1.block q hq)⟩⟩
  · rw [List.length_append]
    show w'.ownsRow _ _ 1 v' (os.length + 1) _
    rw [show lpVals (os ++ [⟨G, c, f⟩]) = lpVals os ++ lpVals [⟨G, c, f⟩] from fl_append os _]
    exact hown
  · intro x hx'
    rcases List.mem_append.1 hx' with hx' | hx'
    · obtain ⟨hat, hne⟩ := hx x hx'
      refine ⟨hat.keep hz (hb _ hat.lt hne), ?_⟩
      rcases hv with hv | ⟨q, hv, hq⟩
      · rw [hv]
        exact hne
      · rw [hv]
        intro e
        have := Option.some.inj e
        have := hat.lt
        omega
    · rw [List.mem_singleton.1 hx']
      exact ⟨⟨hrow, Nat.le_trans hs1 hG, hGl⟩, hGn⟩
/-- All of them. -/
theorem outT_los {W1 wr : World} {bs : List (List Int)} {v : Value} (h : OutT W1 bs v wr) : ∃ (a : Option Addr) (cap : Nat) (os : List Lo), os.map Lo.xs = bs ∧ v = .slice a os.length cap ∧ LosAt wr a os ∧ Below W1.heap.size W1 wr := by
  obtain ⟨os, hbs, ho, hx, hb⟩ := h
  obtain ⟨a, c, rfl, hr⟩ := own_at ho
  refine ⟨a, c, os.map Lp.lo_, by rw [List.map_map]; exact hbs, by rw [List.length_map], ⟨by rw [lo_vals]; exact hr, fun x hx' => ?_⟩, hb⟩
  obtain ⟨y, hy, rfl⟩ := List.mem_map.1 hx'
  exact (hx y hy).1.row

set_option maxRecDepth 100000 in
set_option maxHeartbeats 1600000 in
theorem implTargets (n c : Nat) (hn : n ≤ 4) (hc : c ≤ 3) (w : World) : Calls Tryz.prog 112 #[.int .i64 (n : Int), .int .i64 (c : Int)] w (GaveLos (listsS (c + 1) n) w) := by
  obtain ⟨i0, hi9, hz0, hz1, hz2⟩ := info_parts listInfo
  obtain ⟨j0, hj9, hy0, hy1, hy2⟩ := info_parts numInfo9
  have hrow0 := (own_at (own_lit (w := w) (base := 0) (e := 28) (.slice none 0 0) (Nat.zero_le _)))
  have hb0 := (Below.refl w.heap.size w).alloc (Nat.le_refl _) (.cells #[.slice none 0 0] 28)
  go_enter Tryz.func112, Tryz.ntmps112
  go_wp2
  go_loopw [5, 12] (fun v t wr => ∃ (k : Nat) (a : Option Addr) (cap : Nat) (os : List Lo), k ≤ n ∧ t = .int .i64 (k : Int) ∧ os.map Lo.xs = listsS (c + 1) k ∧ v = .slice a os.length cap ∧ LosAt wr a os ∧ Below w.heap.size w wr) (fun _ t _ => n - (intOf t).toNat)
  case atStart =>
    obtain ⟨a, cc, e, hr⟩ := hrow0
    injection e with e1 _ e3
    subst e1
    exact ⟨0, _, 1, [⟨none, 0, []⟩], Nat.zero_le _, rfl, rfl, rfl, ⟨hr, fun x hx => by rw [List.mem_singleton.1 hx]; exact fun k u hu => by simp [intVals] at hu⟩, hb0⟩
  case round =>
    obtain ⟨k, a, cap, os, hk, rfl, hos, rfl, hat, hbw⟩ := hrel
    obtain ⟨W1, rfl⟩ : ∃ W1, W1 = wr := ⟨_, rfl⟩
    by_cases hlt : k < n
    · have hst := stepT_lists (c + 1) k
      have hls := listsS_le (m := c + 1) (n := k) (by omega) (by omega)
      have hle2 := listsS_le (m := c + 1) (n := k + 1) (by omega) (by omega)
      have hsl : ∀ l ∈ listsS (c + 1) k, l.length ≤ 4 := fun l hl => by rw [listsS_each hl]; omega
      have hll : os.length = (listsS (c + 1) k).length := by rw [← hos]; simp
      obtain ⟨big, hbig⟩ : ∃ big, listsS (c + 1) (k + 1) = big := ⟨_, rfl⟩
      rw [hbig] at hst hle2
      have HBIG := Lib.hid hbig
      clear hbig
      generalize hless : listsS (c + 1) k = less at *
      have HLL := Lib.hid hll
      have HST := Lib.hid hst
      have HAT := Lib.hid hat
      have HOS := Lib.hid hos
      have HBW := Lib.hid hbw
      have hO := OutT.start W1
      clear hst hat hos hbw hless hrow0 hb0 hll
      go_wp2
      go_loopw [6, 16] (fun v t wr => ∃ i : Nat, i ≤ os.length ∧ t = .int .i64 (i : Int) ∧ OutT W1 (stepT (c + 1) (less.take i)) v wr) (fun _ t _ => os.length - (intOf t).toNat)
      case atStart => exact ⟨0, Nat.zero_le _, rfl, hO⟩
      case round =>
        obtain ⟨i, hi, rfl, hO⟩ := hrel
        by_cases hlo : i < os.length
        · have hli : i < less.length := by have := HLL.out; omega
          have hxs : os[i].xs = less[i] := by
            have h1 : (os.map Lo.xs)[i]? = less[i]? := by rw [HOS.out]
            simpa [hlo, hli] using h1
          have hl4 : less[i].length ≤ 4 := hsl _ (List.getElem_mem hli)
          have hbq : Below W1.heap.size W1 wr := by
            obtain ⟨_, _, _, _, hb⟩ := hO
            exact hb
          obtain ⟨⟨b1, o1, e1, _, hc1⟩, _⟩ := (HAT.out.below hbq).item i hlo
          have hy : ∀ W, Below W1.heap.size W1 W → Row W W.heap.size os[i].a (intVals os[i].xs) := fun W hb => ((HAT.out.below hb).item i hlo).2
          have hnext := stepT_next (c + 1) less i hli
          subst e1
          rw [← hxs] at hl4 hnext
          generalize os[i] = y at *
          have HY := Lib.hid hy
          have HNEXT := Lib.hid hnext
          have hO0 := outT_zero y.xs hO
          have HO := Lib.hid hO0
          clear hy hnext hO hO0 hxs hbq
          go_wp2
          go_loopw [6, 9] (fun v t wr => ∃ j : Nat, j ≤ c + 1 ∧ t = .int .i64 ((j : Int) - 1) ∧ OutT W1 (stepT (c + 1) (less.take i) ++ tailsT y.xs j) v wr) (fun _ t _ => c + 1 - (intOf t + 1).toNat)
          case atStart => exact ⟨0, Nat.zero_le _, rfl, HO.out⟩
          case round =>
            obtain ⟨j, hj, rfl, hO⟩ := hrel
            by_cases hlj : j < c + 1
            · have hcond : ((j : Int) - 1 < (c : Int)) := by omega
              obtain ⟨ls, hos', ho, hx, hbw⟩ := hO
              obtain ⟨va, vc, rfl⟩ := own_shape2 ho
              have hlen : ls.length + 1 ≤ 256 := by
                have h1 := congrArg List.length hos'
                rw [List.length_append, stepT_length, tailsT_length, List.length_map, List.length_take, Nat.min_eq_left (Nat.le_of_lt hli)] at h1
                have h2 := congrArg List.length HST.out
                rw [stepT_length] at h2
                have h3 := room_t (m := c + 1) hli hlj
                omega
              have hbq := hbw
              have Hos := Lib.hid hos'
              have Ho := Lib.hid ho
              have Hx := Lib.hid hx
              have Hbw := Lib.hid hbw
              clear hos' ho hx hbw HO
              go_wp2_with fail
              refine (libClone y.a y.c y.xs _ (by omega) (HY.out _ hbq)).mono ?_
              rintro e w5 ⟨oa, oc, rfl, ho5, hb5⟩
              have hz5 := hb5.size
              have Ho5 := Lib.hid (ho5.alloc (.cells #[.int .i64 ((j : Int) - 1)] 3))
              have HB5 := Lib.hid hb5
              have HO5 := Lib.hid ((own_keeps Ho.out hb5).alloc (.cells #[.int .i64 ((j : Int) - 1)] 3))
              clear ho5 hb5 hbq
              go_wp2_with (first
                | (at_builtin; refine wpList_append_own_at _ rfl (.tmp 27) (.tmp 29) 28 rfl wr.heap.size 3 j0 (.int .i64 0) 1 8 Tryz.underlying28 hj9 hy0 hy1 hy2 rfl (by decide) (.slice oa y.xs.length oc) y.xs.length (intVals y.xs) rfl Ho5.out ⟨w5.heap.size, 0, none⟩ 1 1 [.int .i64 ((j : Int) - 1)] rfl rfl ?_ ?_ ?_ ?_ ?_ ?_; (focus exact lit_news _ _ _); (focus exact oneCell_int _); (focus (unfold maxLen; omega)); (focus omega); (focus (simp; omega)); intro v6 w6 hown6 hg6 _ _; obtain ⟨G, c6, rfl⟩ := own_pos hown6; have HO6 := Lib.hid (own_other HO5.out hg6 (fun k hk e => by have h1 := (Ho.out.lt k hk).2; have h2 := (Ho5.out.lt k e.symm).1; omega)); have HW6 := Lib.hid hown6; have HG6 := Lib.hid hg6; have hz6 := hg6.size; simp only [World.size_alloc] at hz6; have hG6 := hown6.lt G rfl; clear hown6 hg6)
                | (at_builtin; refine wpList_append_own_at _ rfl (.tmp 25) (.tmp 31) 103 rfl W1.heap.size 28 i0 (.slice none 0 0) 1 24 Tryz.underlying103 hi9 hz0 hz1 hz2 rfl (by decide) (.slice va ls.length vc) ls.length (lpVals ls) rfl (HO6.out.alloc _) ⟨w6.heap.size, 0, none⟩ 1 1 [.slice (some ⟨G, 0, none⟩) (y.xs.length + 1) c6] rfl rfl ?_ ?_ ?_ ?_ ?_ ?_; (focus exact lit_news _ _ _); (focus exact lit_one _ _ _); (focus (unfold maxLen; omega)); (focus omega); (focus (have h5 := Hbw.out.size; simp; omega)); intro v7 w7 hown7 hg7 _ hloc7; have HW7 := Lib.hid hown7; have HG7 := Lib.hid hg7; have HL7 := Lib.hid hloc7; have hz7 := hg7.size; simp only [World.size_alloc] at hz7; clear hown7 hg7 hloc7)
                | fail)
              go_roundw
              case rel =>
                have hg7 : (w6.alloc (.cells #[.slice (some ⟨G, 0, none⟩) (y.xs.length + 1) c6] 28)).grownBy w7 (Value.slice va ls.length vc).ownBlock := HG7.out
                have hl7 : v7.ownBlock = (Value.slice va ls.length vc).ownBlock ∨ v7.ownBlock = some (w6.alloc (.cells #[.slice (some ⟨G, 0, none⟩) (y.xs.length + 1) c6] 28)).heap.size := HL7.out
                have hg6 : (w5.alloc (.cells #[.int .i64 ((j : Int) - 1)] 3)).grownBy w6 (Value.slice oa y.xs.length oc).ownBlock := HG6.out
                have ha5 := (Below.refl w5.heap.size w5).alloc (Nat.le_refl _) (.cells #[.int .i64 ((j : Int) - 1)] 3)
                have ha6 := (Below.refl w6.heap.size w6).alloc (Nat.le_refl _) (.cells #[.slice (some ⟨G, 0, none⟩) (y.xs.length + 1) c6] 28)
                have z5 : (w5.alloc (.cells #[.int .i64 ((j : Int) - 1)] 3)).heap.size = w5.heap.size + 1 := by simp
                have z6 : (w6.alloc (.cells #[.slice (some ⟨G, 0, none⟩) (y.xs.length + 1) c6] 28)).heap.size = w6.heap.size + 1 := by simp
                rw [z6] at hl7
                have hGn : (Value.slice va ls.length vc).ownBlock ≠ some G := fun e => by have := (Ho.out.lt G e).2; omega
                have hGb : w7.heap[G]? = w6.heap[G]? := (hg7.block G (by rw [z6]; omega) (fun e => hGn e.symm)).trans (ha6.block G hG6.2)
                have hrow6 : Row w7 w7.heap.size (some ⟨G, 0, none⟩) (intVals (y.xs ++ [(j : Int) - 1])) := by
                  intro q u hu
                  rw [intVals_snoc] at hu
                  obtain ⟨b, o, e, hl, hc⟩ := own_row HW6.out q u hu
                  injection e with e
                  injection e with e1 e2 _
                  subst e1 e2
                  exact ⟨_, _, rfl, by omega, (World.cell?_of_block hGb).trans hc⟩
                refine ⟨j + 1, by omega, by go_num, ?_⟩
                rw [tailsT_next, ← List.append_assoc]
                refine outT_next (c := c6) (G := G) Hos.out Ho.out Hx.out Hbw.out (by omega) (fun q hq hqn => ?_) (hg7.os.trans (ha6.os.trans (hg6.os.trans (ha5.os.trans HB5.out.os)))) (hg7.tape.trans (ha6.tape.trans (hg6.tape.trans (ha5.tape.trans HB5.out.tape)))) (hg7.output.trans (ha6.output.trans (hg6.output.trans (ha5.output.trans HB5.out.output)))) hG6.1 (by omega) ?_ hrow6 ?_ ?_
                · exact (hg7.block q (by rw [z6]; omega) (fun e => hqn e.symm)).trans ((ha6.block q (by omega)).trans ((hg6.block q (by rw [z5]; omega) (fun e => by have := (Ho5.out.lt q e.symm).1; omega)).trans ((ha5.block q (by omega)).trans (HB5.out.block q hq))))
                · rcases hl7 with e | e
                  · rw [e]; exact hGn
                  · rw [e]; exact fun h => by have := Option.some.inj h; omega
                · rcases hl7 with e | e
                  · exact .inl e
                  · exact .inr ⟨_, e, by omega⟩
                · rw [List.length_append]
                  exact HW7.out
              case measure => simp [intOf]; omega
            · have hcond : ¬ ((j : Int) - 1 < (c : Int)) := by omega
              obtain rfl : j = c + 1 := by omega
              rw [← HNEXT.out] at hO
              have HN := Lib.hid hO
              clear hO
              go_wp2
              go_roundw
              case rel => exact ⟨i + 1, by omega, by go_num, HN.out⟩
              case measure => simp [intOf]; omega
        · obtain rfl : i = os.length := by omega
          rw [HLL.out, List.take_length, HST.out] at hO
          obtain ⟨a2, cap2, os2, hos2, rfl, hat2, hb2⟩ := outT_los hO
          have HR := Lib.hid (And.intro hos2 (And.intro hat2 (HBW.out.trans (hb2.mono HBW.out.size))))
          clear hos2 hat2 hb2 hO
          go_wp2
          go_roundw
          case rel => exact ⟨k + 1, a2, cap2, os2, by omega, by go_num, by rw [HBIG.out]; exact HR.out.1, rfl, HR.out.2.1, HR.out.2.2⟩
          case measure => simp [intOf]; omega
    · obtain rfl : k = n := by omega
      have HE := Lib.hid (show GaveLos (listsS (c + 1) k) w (.returned (.slice a os.length cap)) W1 from ⟨a, cap, os, hos, rfl, hat, hbw⟩)
      clear hat hbw hos
      go_wp2
      go_ret
      exact HE.out
end Go.Proofs.YtpmmjaceehlpiaaGreatDoor
/-
  The law's own copy of a state.
-/
namespace Go.Proofs.YtpmmjaceehlpiaaGreatDoor
open Go Go.RowKit Go.ChangeShapes Go.WideShapes Go.ChangeAt

def CopyState (p : Int) (vs zs : List Int) (w : World) (e : Ending) (w' : World) : Prop :=
  ∃ a b, e = .returned (spC p a vs.length vs.length b zs.length zs.length) ∧ HeapIn w.heap.size w'.heap.size w' a vs.length b zs.length (intVals vs) (intVals zs) ∧ Below w.heap.size w w'
theorem box3s (w : World) (xs ys us : List Value) (t t' t'' : TypeId) : ∃ W0, ((w.alloc (.cells xs.toArray t)).alloc (.cells ys.toArray t')).alloc (.cells us.toArray t'') = W0 ∧ Below w.heap.size w W0 ∧ BoxL W0 w.heap.size xs ∧ BoxL W0 (w.heap.size + 1) ys ∧ BoxL W0 (w.heap.size + 2) us := by
  obtain ⟨W1, h1, hb1, b1, b2⟩ := two_boxL w xs ys t t'
  have hs1 : W1.heap.size = w.heap.size + 2 := by rw [← h1]; simp
  rw [h1]
  have b3 := BoxL.new W1 us t''
  have ha := (Below.refl W1.heap.size W1).alloc (Nat.le_refl _) (.cells us.toArray t'')
  rw [hs1] at b3
  exact ⟨_, rfl, hb1.trans (ha.mono (by omega)), b1.below ha, b2.below ha, b3⟩
end Go.Proofs.YtpmmjaceehlpiaaGreatDoor
/-
  The program compares two states.
-/
namespace Go.Proofs.YtpmmjaceehlpiaaGreatDoor
open Go Go.RowKit Go.ChangeShapes Go.WideShapes Go.ChangeAt

set_option maxHeartbeats 800000 in
theorem implEqualState (p q : Int) (a b c d : Option Addr) (ca cb cc cd : Nat) (vs zs us ys : List Int) (w : World) (hn : vs.length ≤ maxLen) (hm : zs.length ≤ maxLen) (h : HeapAt w a b vs zs) (h' : HeapAt w c d us ys) :
    Calls Tryz.prog 10 #[spC p a vs.length ca b zs.length cb, spC q c us.length cc d ys.length cd] w (GaveX (.bool (sameSp p q vs zs us ys)) w) := by
  have hb0 : ∀ u v t t', Below w.heap.size w ((w.alloc (.cells u t)).alloc (.cells v t')) := fun u v t t' => ((Below.refl _ _).alloc (Nat.le_refl _) _).alloc (by simp) _
  by_cases hpq : p = q
  · subst hpq
    have hs : sameSp p p vs zs us ys = sameH vs zs us ys := by simp [sameSp]
    rw [hs]
    obtain ⟨bb, hbb⟩ : ∃ bb, sameH vs zs us ys = bb := ⟨_, rfl⟩
    rw [hbb]
    have HBB := Lib.hid hbb
    clear hs hbb
    go_enter Tryz.func10, Tryz.ntmps10
    go_wp2_with fail
    refine (implEqualHeap a b c d ca cb cc cd vs zs us ys _ hn hm (h.below (hb0 _ _ _ _) (Nat.le_refl _)) (h'.below (hb0 _ _ _ _) (Nat.le_refl _))).mono ?_
    rw [HBB.out]
    rintro e w1 ⟨rfl, hb1⟩
    have hB := (hb0 _ _ _ _).trans (hb1.mono (hb0 _ _ _ _).size)
    have HE := Lib.hid hB
    clear hb1 hB
    go_wp2
    go_ret
    exact ⟨rfl, HE.out⟩
  · have hs : sameSp p q vs zs us ys = false := by simp [sameSp, hpq]
    rw [hs]
    have hne : (p == q) = false := by simpa using hpq
    have HE := Lib.hid hb0
    clear hs hpq hb0
    go_enter Tryz.func10, Tryz.ntmps10
    go_wp2
    go_ret
    exact ⟨rfl, HE.out _ _ _ _⟩
end Go.Proofs.YtpmmjaceehlpiaaGreatDoor
/-
  The law's comparison of two rows of states, of heaps, by the model's own.
-/
namespace Go.Proofs.YtpmmjaceehlpiaaGreatDoor
open Go Go.RowKit

theorem sameSp_self (p : Int) (vs zs : List Int) : sameSp p p vs zs vs zs = true := by simp [sameSp, sameH]
theorem sameH_self (vs zs : List Int) : sameH vs zs vs zs = true := by simp [sameH]
set_option maxHeartbeats 800000 in
theorem sameStateRows (a b : Option Addr) (ca cb : Nat) (ss ts : List Sp) (w : World) (hn : ss.length ≤ maxLen) (hl : ∀ x ∈ ss, x.h.vs.length ≤ maxLen ∧ x.h.zs.length ≤ maxLen) (hbd : ts.map Sp.body = ss.map Sp.body) (ha : StatesAt w a ss) (hb : StatesAt w b ts) :
    Calls Tryz.prog 17 #[.slice a ss.length ca, .slice b ts.length cb] w (GaveX (.bool true) w) := by
  unfold maxLen at hn
  have hkl : ts.length = ss.length := by
    have h1 := congrArg List.length hbd
    simpa using h1
  rw [hkl]
  go_enter Tryz.func17, Tryz.ntmps17
  go_wp2
  go_loopw [5] (fun i wr => ∃ k : Nat, k ≤ ss.length ∧ i = .int .i64 k ∧ Below w.heap.size w wr) (fun i _ => ss.length - (intOf i).toNat)
  case atStart => exact ⟨0, Nat.zero_le _, rfl, Below.refl _ _⟩
  case round =>
    obtain ⟨k, hk, rfl, hbw⟩ := hrel
    by_cases hlt : k < ss.length
    · have hlk : k < ts.length := by omega
      obtain ⟨ba, oa, rfl, hba, _, _, _, _⟩ := ha.item k hlt
      obtain ⟨bb, ob, rfl, hbb, _, _, _, _⟩ := hb.item k hlk
      have hx := hl ss[k] (List.getElem_mem hlt)
      have he : ts[k].body = ss[k].body := by
        have h1 : (ts.map Sp.body)[k]? = (ss.map Sp.body)[k]? := by rw [hbd]
        simpa [hlt, hlk] using h1
      have hA := fun W h => (ha.below (W' := W) h).item k hlt
      have hB := fun W h => (hb.below (W' := W) h).item k hlk
      generalize ss[k] = x at *
      generalize ts[k] = y at *
      obtain ⟨yp, ya, yca, yb, ycb, yv, yz⟩ := y
      obtain ⟨xp, xa, xca, xb, xcb, xv, xz⟩ := x
      simp only [Sp.body, Hp.body, Prod.mk.injEq] at he
      obtain ⟨rfl, rfl, rfl⟩ := he
      have hS : ∀ W, Below w.heap.size w W → (W.cell? ⟨ba, oa + k * 3, none⟩ = some (.int .i64 yp) ∧ W.cell? ⟨ba, oa + k * 3 + 1, none⟩ = some (.slice xa yv.length xca) ∧ W.cell? ⟨ba, oa + k * 3 + 2, none⟩ = some (.slice xb yz.length xcb)) ∧ (W.cell? ⟨bb, ob + k * 3, none⟩ = some (.int .i64 yp) ∧ W.cell? ⟨bb, ob + k * 3 + 1, none⟩ = some (.slice ya yv.length yca) ∧ W.cell? ⟨bb, ob + k * 3 + 2, none⟩ = some (.slice yb yz.length ycb)) := by
        intro W h
        obtain ⟨b1, o1, e1, _, p0, p1, p2, _⟩ := hA W h
        obtain ⟨b2, o2, e2, _, q0, q1, q2, _⟩ := hB W h
        injection e1 with e1
        injection e1 with e1 e1' _
        injection e2 with e2
        injection e2 with e2 e2' _
        subst e1 e1' e2 e2'
        exact ⟨⟨p0, p1, p2⟩, q0, q1, q2⟩
      have hR : ∀ W, Below w.heap.size w W → HeapAt W xa xb yv yz ∧ HeapAt W ya yb yv yz := fun W h => by
        obtain ⟨_, _, _, _, _, _, _, p⟩ := hA W h
        obtain ⟨_, _, _, _, _, _, _, q⟩ := hB W h
        exact ⟨p, q⟩
      have HS := Lib.hid hS
      have HR := Lib.hid hR
      have HA := Lib.hid ha
      have HB := Lib.hid hb
      clear hA hB hS hR ha hb hbd
      go_wp2_with fail
      go_region_held3 (fun W => (W.cell? ⟨ba, oa + k * 3, none⟩ = some (.int .i64 yp) ∧ W.cell? ⟨ba, oa + k * 3 + 1, none⟩ = some (.slice xa yv.length xca) ∧ W.cell? ⟨ba, oa + k * 3 + 2, none⟩ = some (.slice xb yz.length xcb)) ∧ (W.cell? ⟨bb, ob + k * 3, none⟩ = some (.int .i64 yp) ∧ W.cell? ⟨bb, ob + k * 3 + 1, none⟩ = some (.slice ya yv.length yca) ∧ W.cell? ⟨bb, ob + k * 3 + 2, none⟩ = some (.slice yb yz.length ycb)))
        (first | with_reducible exact HS.out _ (Below.drew hbw) | with_reducible exact HS.out _ hB1)
        (first | (go_at_call 20; (with_reducible refine (specEqualState yp yp xa xb ya yb xca xcb yca ycb yv yz yv yz _ hx.1 hx.2 (HR.out _ (Below.drew hbw)).1 (HR.out _ (Below.drew hbw)).2).mono ?_); rw [sameSp_self]; rintro e w1 ⟨rfl, hb1⟩; have hB1 := (Below.drew hbw).trans (hb1.mono (Below.drew hbw).size)))
      go_wp2
      go_roundw
      case rel => exact ⟨k + 1, by omega, by go_num, hB1⟩
      case measure => simp [intOf]; omega
    · go_wp2
      go_ret
      exact ⟨rfl, hbw⟩

set_option maxHeartbeats 800000 in
theorem sameHeapRows (a b : Option Addr) (ca cb : Nat) (hs ks : List Hp) (w : World) (hn : hs.length ≤ maxLen) (hl : ∀ x ∈ hs, x.vs.length ≤ maxLen ∧ x.zs.length ≤ maxLen) (hbd : ks.map Hp.body = hs.map Hp.body) (ha : HeapsAt w a hs) (hb : HeapsAt w b ks) :
    Calls Tryz.prog 18 #[.slice a hs.length ca, .slice b ks.length cb] w (GaveX (.bool true) w) := by
  unfold maxLen at hn
  have hkl : ks.length = hs.length := by
    have h1 := congrArg List.length hbd
    simpa using h1
  rw [hkl]
  go_enter Tryz.func18, Tryz.ntmps18
  go_wp2
  go_loopw [5] (fun i wr => ∃ k : Nat, k ≤ hs.length ∧ i = .int .i64 k ∧ Below w.heap.size w wr) (fun i _ => hs.length - (intOf i).toNat)
  case atStart => exact ⟨0, Nat.zero_le _, rfl, Below.refl _ _⟩
  case round =>
    obtain ⟨k, hk, rfl, hbw⟩ := hrel
    by_cases hlt : k < hs.length
    · have hlk : k < ks.length := by omega
      obtain ⟨ba, oa, rfl, hba, _, _, _⟩ := ha.item k hlt
      obtain ⟨bb, ob, rfl, hbb, _, _, _⟩ := hb.item k hlk
      have hx := hl hs[k] (List.getElem_mem hlt)
      have he : ks[k].body = hs[k].body := by
        have h1 : (ks.map Hp.body)[k]? = (hs.map Hp.body)[k]? := by rw [hbd]
        simpa [hlt, hlk] using h1
      have hA := fun W h => (ha.below (W' := W) h).item k hlt
      have hB := fun W h => (hb.below (W' := W) h).item k hlk
      generalize hs[k] = x at *
      generalize ks[k] = y at *
      obtain ⟨ya, yca, yb, ycb, yv, yz⟩ := y
      simp only [Hp.body, Prod.mk.injEq] at he
      obtain ⟨rfl, rfl⟩ := he
      have hS : ∀ W, Below w.heap.size w W → (W.cell? ⟨ba, oa + k * 2, none⟩ = some (.slice x.a x.vs.length x.ca) ∧ W.cell? ⟨ba, oa + k * 2 + 1, none⟩ = some (.slice x.b x.zs.length x.cb)) ∧ (W.cell? ⟨bb, ob + k * 2, none⟩ = some (.slice ya x.vs.length yca) ∧ W.cell? ⟨bb, ob + k * 2 + 1, none⟩ = some (.slice yb x.zs.length ycb)) := by
        intro W h
        obtain ⟨b1, o1, e1, _, p0, p1, _⟩ := hA W h
        obtain ⟨b2, o2, e2, _, q0, q1, _⟩ := hB W h
        injection e1 with e1
        injection e1 with e1 e1' _
        injection e2 with e2
        injection e2 with e2 e2' _
        subst e1 e1' e2 e2'
        exact ⟨⟨p0, p1⟩, q0, q1⟩
      have hR : ∀ W, Below w.heap.size w W → HeapAt W x.a x.b x.vs x.zs ∧ HeapAt W ya yb x.vs x.zs := fun W h => by
        obtain ⟨_, _, _, _, _, _, p⟩ := hA W h
        obtain ⟨_, _, _, _, _, _, q⟩ := hB W h
        exact ⟨p, q⟩
      have HS := Lib.hid hS
      have HR := Lib.hid hR
      have HA := Lib.hid ha
      have HB := Lib.hid hb
      clear hA hB hS hR ha hb hbd
      go_wp2_with fail
      go_region_held3 (fun W => (W.cell? ⟨ba, oa + k * 2, none⟩ = some (.slice x.a x.vs.length x.ca) ∧ W.cell? ⟨ba, oa + k * 2 + 1, none⟩ = some (.slice x.b x.zs.length x.cb)) ∧ (W.cell? ⟨bb, ob + k * 2, none⟩ = some (.slice ya x.vs.length yca) ∧ W.cell? ⟨bb, ob + k * 2 + 1, none⟩ = some (.slice yb x.zs.length ycb)))
        (first | with_reducible exact HS.out _ (Below.drew hbw) | with_reducible exact HS.out _ hB1)
        (first | (go_at_call 68; (with_reducible refine (specEqualHeap x.a x.b ya yb x.ca x.cb yca ycb x.vs x.zs x.vs x.zs _ hx.1 hx.2 (HR.out _ (Below.drew hbw)).1 (HR.out _ (Below.drew hbw)).2).mono ?_); rw [sameH_self]; rintro e w1 ⟨rfl, hb1⟩; have hB1 := (Below.drew hbw).trans (hb1.mono (Below.drew hbw).size)))
      go_wp2
      go_roundw
      case rel => exact ⟨k + 1, by omega, by go_num, hB1⟩
      case measure => simp [intOf]; omega
    · go_wp2
      go_ret
      exact ⟨rfl, hbw⟩
end Go.Proofs.YtpmmjaceehlpiaaGreatDoor
/-
  The key of a state: a value of twelve numbers.
-/
namespace Go.Proofs.YtpmmjaceehlpiaaGreatDoor
open Go Go.RowKit Go.ChangeShapes Go.WideShapes Go.ChangeAt

def keyNums (p : Int) (vs zs : List Int) : List Int := [p, (zs.length : Int), vs.getD 0 0, vs.getD 1 0, vs.getD 2 0, vs.getD 3 0, zs.getD 0 0, zs.getD 1 0, zs.getD 2 0, zs.getD 3 0, zs.getD 4 0, zs.getD 5 0]
abbrev keyV (p : Int) (vs zs : List Int) : Value := .agg #[.int .i64 p, .int .i64 (zs.length : Int), .int .i64 (vs.getD 0 0), .int .i64 (vs.getD 1 0), .int .i64 (vs.getD 2 0), .int .i64 (vs.getD 3 0), .int .i64 (zs.getD 0 0), .int .i64 (zs.getD 1 0), .int .i64 (zs.getD 2 0), .int .i64 (zs.getD 3 0), .int .i64 (zs.getD 4 0), .int .i64 (zs.getD 5 0)]
def keyCells (p : Int) (vs zs : List Int) : List Value := (keyNums p vs zs).map (Value.int .i64)
theorem splice_key (p : Int) (vs zs : List Int) (hv : vs.length ≤ 4) (hz : zs.length ≤ 6) :
    splice (splice [.int .i64 p, .int .i64 (zs.length : Int), .int .i64 0, .int .i64 0, .int .i64 0, .int .i64 0, .int .i64 0, .int .i64 0, .int .i64 0, .int .i64 0, .int .i64 0, .int .i64 0] 2 (intVals vs)) 6 (intVals zs) = keyCells p vs zs := by
  match vs, zs, hv, hz with
  | vs, zs, hv, hz =>
    rcases vs with _ | ⟨v0, _ | ⟨v1, _ | ⟨v2, _ | ⟨v3, _ | ⟨_, _⟩⟩⟩⟩⟩
    all_goals try (exfalso; simp only [List.length_cons] at hv; omega; done)
    all_goals rcases zs with _ | ⟨z0, _ | ⟨z1, _ | ⟨z2, _ | ⟨z3, _ | ⟨z4, _ | ⟨z5, _ | ⟨_, _⟩⟩⟩⟩⟩⟩⟩ <;> first | rfl | (exfalso; simp only [List.length_cons] at hz; omega)
theorem box_cells {W : World} {K : Nat} {xs : List Value} {t : TypeId} (h : W.heap[K]? = some (.cells xs.toArray t (0, 0))) : BoxL W K xs := by
  refine ⟨fun i x hx => ?_, fun o => ?_, ?_⟩
  · simp [World.cell?, h, hx]
  · simp [World.frozen?, h]
  · exact (Array.getElem?_eq_some_iff.1 h).1
theorem row_from {w : World} {B : Nat} {a : Option Addr} {ns : List Int} (h : Row w B a (intVals ns)) : 0 < (intVals ns).length → ∃ ad, a = some ad ∧ ∀ j v, (intVals ns)[j]? = some v → w.cell? (ad.add j) = some v := by
  intro h0
  obtain ⟨b, o, e, _, _⟩ := h 0 _ (List.getElem?_eq_getElem h0)
  refine ⟨_, e, fun j v hj => ?_⟩
  obtain ⟨b', o', e', _, hc⟩ := h j v hj
  rw [e] at e'
  injection e' with e'
  injection e' with e1 e2 _
  subst e1 e2
  rw [add_plain]
  exact hc
theorem numSize : (Tryz.prog.info? 3).map (·.size) = some 1 := by kernel_rfl
set_option maxRecDepth 100000 in
set_option maxHeartbeats 1600000 in
theorem implKeyOf (p : Int) (a b : Option Addr) (ca cb : Nat) (vs zs : List Int) (w : World) (hv : vs.length ≤ 4) (hz : zs.length ≤ 6) (h : HeapAt w a b vs zs) :
    Calls Tryz.prog 111 #[spC p a vs.length ca b zs.length cb] w (GaveX (keyV p vs zs) w) := by
  obtain ⟨kv, hkv⟩ : ∃ kv, keyV p vs zs = kv := ⟨_, rfl⟩
  rw [hkv]
  have HKV := Lib.hid hkv
  clear hkv
  go_enter Tryz.func111, Tryz.ntmps111
  go_wp2
  obtain ⟨W0, hW0, hb0, b0, b1, _⟩ := box3s w [.int .i64 p, .slice a vs.length ca, .slice b zs.length cb] [.int .i64 0, .int .i64 0, .int .i64 0, .int .i64 0, .int .i64 0, .int .i64 0, .int .i64 0, .int .i64 0, .int .i64 0, .int .i64 0, .int .i64 0, .int .i64 0] [.int .i64 p, .int .i64 (zs.length : Int), .int .i64 0, .int .i64 0, .int .i64 0, .int .i64 0, .int .i64 0, .int .i64 0, .int .i64 0, .int .i64 0, .int .i64 0, .int .i64 0] 34 134 134
  have hk : W0.heap[w.heap.size + 1 + 1]? = some (.cells [.int .i64 p, .int .i64 (zs.length : Int), .int .i64 0, .int .i64 0, .int .i64 0, .int .i64 0, .int .i64 0, .int .i64 0, .int .i64 0, .int .i64 0, .int .i64 0, .int .i64 0].toArray 134 (0, 0)) := by
    rw [← hW0]
    refine (congrArg (fun i => (World.heap _)[i]?) (by simp : w.heap.size + 1 + 1 = ((w.alloc _).alloc _).heap.size)).trans (heap_alloc_new _ _)
  simp only [List.toArray] at hW0
  rw [hW0]
  clear hW0
  have hA : ∀ W, Below (w.heap.size + 1 + 1) W0 W → (W.cell? ⟨w.heap.size, 1, none⟩ = some (.slice a vs.length ca) ∧ W.cell? ⟨w.heap.size, 2, none⟩ = some (.slice b zs.length cb)) ∧ HeapAt W a b vs zs ∧ BoxL W (w.heap.size + 1) [.int .i64 0, .int .i64 0, .int .i64 0, .int .i64 0, .int .i64 0, .int .i64 0, .int .i64 0, .int .i64 0, .int .i64 0, .int .i64 0, .int .i64 0, .int .i64 0] ∧ Below w.heap.size w W := fun W hb => by
    have hs : w.heap.size + 1 + 1 ≤ W0.heap.size := Nat.le_of_lt (Array.getElem?_eq_some_iff.1 hk).1
    have hz0 := hb0.size
    refine ⟨⟨(hb.cell (p := ⟨w.heap.size, 1, none⟩) (by show w.heap.size < _; omega)).trans (b0.c 1 _ rfl), (hb.cell (p := ⟨w.heap.size, 2, none⟩) (by show w.heap.size < _; omega)).trans (b0.c 2 _ rfl)⟩, h.below (hb0.trans (hb.mono (by omega))) (Nat.le_refl _), ⟨fun i x hx => (hb.cell (p := ⟨w.heap.size + 1, i, none⟩) (by show w.heap.size + 1 < _; omega)).trans (b1.c i x hx), fun o => (hb.frozen (p := ⟨w.heap.size + 1, o, none⟩) (by show w.heap.size + 1 < _; omega)).trans (b1.f o), Nat.lt_of_lt_of_le b1.lt hb.size⟩, hb0.trans (hb.mono (by omega))⟩
  have HA := Lib.hid hA
  have hl : (intVals vs).length = vs.length := intVals_length vs
  have hl2 : (intVals zs).length = zs.length := intVals_length zs
  have c1 := b0.c 1 _ rfl
  have c2 := b0.c 2 _ rfl
  have HKK := Lib.hid hk
  have hd : ∀ n, Below (w.heap.size + 1 + 1) W0 (W0.drewN n) := fun n => below_draws (Below.refl _ _) n
  clear hA b0 b1 hb0 h hk
  go_region_law (refine step_copy_splice rfl (.tmp 12) (.tmp 15) 28 28 rfl 3 Tryz.underlying28 numSize (some ⟨w.heap.size + 1 + 1, 2, none⟩) a 4 4 vs.length ca rfl rfl (w.heap.size + 1 + 1) 2 [.int .i64 p, .int .i64 (zs.length : Int), .int .i64 0, .int .i64 0, .int .i64 0, .int .i64 0, .int .i64 0, .int .i64 0, .int .i64 0, .int .i64 0, .int .i64 0, .int .i64 0] 134 HKK.out (intVals vs) (by rw [hl]; exact (Nat.min_eq_left hv).symm) (fun h0 => ⟨rfl, row_from (HA.out _ (Below.drew (Below.refl _ _))).2.1.v h0⟩) (by rw [hl]; show 2 + vs.length ≤ 12; omega) (intVals_onec vs) (w.heap.size + 1 + 1) W0 (Below.drew (Below.refl _ _)) (Nat.le_refl _) ?_; intro w4 hg4 hb4)
  have c2' := (HA.out _ hb4).1.2
  have HG4 := Lib.hid hg4.out
  have HB4 := Lib.hid hb4
  clear hd c1 c2 hg4 hb4
  obtain ⟨X4, hX4⟩ : ∃ X, splice [.int .i64 p, .int .i64 (zs.length : Int), .int .i64 0, .int .i64 0, .int .i64 0, .int .i64 0, .int .i64 0, .int .i64 0, .int .i64 0, .int .i64 0, .int .i64 0, .int .i64 0] 2 (intVals vs) = X := ⟨_, rfl⟩
  have hXl : X4.length = 12 := by
    rw [← hX4]
    simp only [splice, List.length_append, List.length_take, List.length_drop, hl, List.length_cons, List.length_nil]
    omega
  have hHG : w4.heap[w.heap.size + 1 + 1]? = some (.cells X4.toArray 134 (0, 0)) := by rw [← hX4]; exact HG4.out
  have HHG := Lib.hid hHG
  have HX4 := Lib.hid hX4
  clear hHG hX4 HG4
  go_wp2
  go_region_law (refine step_copy_splice rfl (.tmp 18) (.tmp 21) 28 28 rfl 3 Tryz.underlying28 numSize (some ⟨w.heap.size + 1 + 1, 6, none⟩) b 6 6 zs.length cb rfl rfl (w.heap.size + 1 + 1) 6 X4 134 HHG.out (intVals zs) (by rw [hl2]; exact (Nat.min_eq_left hz).symm) (fun h0 => ⟨rfl, row_from (HA.out _ (Below.drew HB4.out)).2.1.z h0⟩) (by rw [hl2, hXl]; omega) (intVals_onec zs) (w.heap.size + 1 + 1) W0 (Below.drew HB4.out) (Nat.le_refl _) ?_; intro w5 hg5 hb5)
  have hK := hg5.out
  rw [← HX4.out, splice_key p vs zs hv hz] at hK
  have bK := box_cells hK
  have bR := (HA.out _ hb5).2.2.1
  have HB5 := Lib.hid (HA.out _ hb5).2.2.2
  have k0 := bK.c 0 _ rfl
  have k1 := bK.c 1 _ rfl
  have k2 := bK.c 2 _ rfl
  have k3 := bK.c 3 _ rfl
  have k4 := bK.c 4 _ rfl
  have k5 := bK.c 5 _ rfl
  have k6 := bK.c 6 _ rfl
  have k7 := bK.c 7 _ rfl
  have k8 := bK.c 8 _ rfl
  have k9 := bK.c 9 _ rfl
  have k10 := bK.c 10 _ rfl
  have k11 := bK.c 11 _ rfl
  have r0 := bR.c 0 _ rfl
  have r1 := bR.c 1 _ rfl
  have r2 := bR.c 2 _ rfl
  have r3 := bR.c 3 _ rfl
  have r4 := bR.c 4 _ rfl
  have r5 := bR.c 5 _ rfl
  have r6 := bR.c 6 _ rfl
  have r7 := bR.c 7 _ rfl
  have r8 := bR.c 8 _ rfl
  have r9 := bR.c 9 _ rfl
  have r10 := bR.c 10 _ rfl
  have r11 := bR.c 11 _ rfl
  have rf := bR.f
  clear bK bR hK hg5 hb5 HB4 HHG HX4 c2' HKK
  have hkv : Value.agg #[.int .i64 p, .int .i64 (zs.length : Int), .int .i64 (vs.getD 0 0), .int .i64 (vs.getD 1 0), .int .i64 (vs.getD 2 0), .int .i64 (vs.getD 3 0), .int .i64 (zs.getD 0 0), .int .i64 (zs.getD 1 0), .int .i64 (zs.getD 2 0), .int .i64 (zs.getD 3 0), .int .i64 (zs.getD 4 0), .int .i64 (zs.getD 5 0)] = kv := HKV.out
  clear HKV
  generalize vs.getD 0 0 = n0 at *
  generalize vs.getD 1 0 = n1 at *
  generalize vs.getD 2 0 = n2 at *
  generalize vs.getD 3 0 = n3 at *
  generalize zs.getD 0 0 = m0 at *
  generalize zs.getD 1 0 = m1 at *
  generalize zs.getD 2 0 = m2 at *
  generalize zs.getD 3 0 = m3 at *
  generalize zs.getD 4 0 = m4 at *
  generalize zs.getD 5 0 = m5 at *
  have HKV := Lib.hid hkv
  clear hkv
  go_wp2
  refine bodyPost_ret (v := .agg #[.int .i64 p, .int .i64 (zs.length : Int), .int .i64 n0, .int .i64 n1, .int .i64 n2, .int .i64 n3, .int .i64 m0, .int .i64 m1, .int .i64 m2, .int .i64 m3, .int .i64 m4, .int .i64 m5]) (by simp [results, Tryz.results111, go_sem, r0, r1, r2, r3, r4, r5, r6, r7, r8, r9, r10, r11]) rfl ⟨by rw [HKV.out], ?_⟩
  repeat (first | with_reducible exact HB5.out | refine Below.setCell ?_ (by show w.heap.size ≤ w.heap.size + 1; omega) _)
end Go.Proofs.YtpmmjaceehlpiaaGreatDoor
/-
  The map of the states that have been met, keyed by a struct: what it says of a state.
-/
namespace Go.Proofs.YtpmmjaceehlpiaaGreatDoor
open Go Go.RowKit Go.Maps

def keyLs (p : Int) (vs zs : List Int) : List Lit := (keyNums p vs zs).map (Lit.int .i64)
def keyL (x : Sb) : Lit := .string (keyBytes (keyLs x.1 x.2.1 x.2.2))
def Fits (n : Int) : Prop := -9223372036854775808 ≤ n ∧ n ≤ 9223372036854775807
/-- A state of a program with n variables. -/
structure Kx (n : Nat) (x : Sb) : Prop where
  n4 : n ≤ 4
  lv : x.2.1.length = n
  lz : x.2.2.length ≤ 6
  fp : Fits x.1
  fv : ∀ k ∈ x.2.1, Fits k
  fz : ∀ k ∈ x.2.2, Fits k
theorem fits_getD {l : List Int} (h : ∀ k ∈ l, Fits k) (i : Nat) : Fits (l.getD i 0) := by
  rw [List.getD_eq_getElem?_getD]
  cases hq : l[i]? with
  | none => exact ⟨by decide, by decide⟩
  | some v => exact h v (List.mem_of_getElem? hq)
theorem fits_wf {n : Int} (h : Fits n) : (Lit.int .i64 n).wf = true := by
  simp only [Lit.wf, Bool.and_eq_true, decide_eq_true_eq]
  exact h
theorem size_big : ∃ d, Tryz.prog.types.size + 1 = d + 3 := ⟨Tryz.prog.types.size - 2, by have : 2 ≤ Tryz.prog.types.size := of_decide_eq_true (by kernel_rfl); omega⟩
theorem cells_key : Tryz.prog.cellsOf 134 = 12 := by kernel_rfl
theorem cells_arr4 : Tryz.prog.cellsOf 131 = 4 := by kernel_rfl
theorem cells_arr6 : Tryz.prog.cellsOf 132 = 6 := by kernel_rfl
theorem cells_num : Tryz.prog.cellsOf 3 = 1 := by kernel_rfl
theorem lits12 (d : Nat) (p m a0 a1 a2 a3 b0 b1 b2 b3 b4 b5 : Int) (w0 : (Lit.int .i64 p).wf = true) (w1 : (Lit.int .i64 m).wf = true) (w2 : (Lit.int .i64 a0).wf = true) (w3 : (Lit.int .i64 a1).wf = true) (w4 : (Lit.int .i64 a2).wf = true) (w5 : (Lit.int .i64 a3).wf = true) (w6 : (Lit.int .i64 b0).wf = true) (w7 : (Lit.int .i64 b1).wf = true) (w8 : (Lit.int .i64 b2).wf = true) (w9 : (Lit.int .i64 b3).wf = true) (w10 : (Lit.int .i64 b4).wf = true) (w11 : (Lit.int .i64 b5).wf = true) :
    Tryz.prog.keyLits (d + 3) 134 [.int .i64 p, .int .i64 m, .int .i64 a0, .int .i64 a1, .int .i64 a2, .int .i64 a3, .int .i64 b0, .int .i64 b1, .int .i64 b2, .int .i64 b3, .int .i64 b4, .int .i64 b5] = some [.int .i64 p, .int .i64 m, .int .i64 a0, .int .i64 a1, .int .i64 a2, .int .i64 a3, .int .i64 b0, .int .i64 b1, .int .i64 b2, .int .i64 b3, .int .i64 b4, .int .i64 b5] := by
  simp [Program.keyLits, Tryz.underlying134, Tryz.underlying131, Tryz.underlying132, Tryz.underlying3, cells_key, cells_arr4, cells_arr6, cells_num, List.range, List.range.loop, w0, w1, w2, w3, w4, w5, w6, w7, w8, w9, w10, w11]
theorem key_lits {n : Nat} {x : Sb} (h : Kx n x) (d : Nat) : Tryz.prog.keyLits (d + 3) 134 (keyV x.1 x.2.1 x.2.2).cells.toList = some (keyLs x.1 x.2.1 x.2.2) :=
  lits12 d _ _ _ _ _ _ _ _ _ _ _ _ (fits_wf h.fp) (fits_wf ⟨by omega, by have := h.lz; omega⟩) (fits_wf (fits_getD h.fv 0)) (fits_wf (fits_getD h.fv 1)) (fits_wf (fits_getD h.fv 2)) (fits_wf (fits_getD h.fv 3)) (fits_wf (fits_getD h.fz 0)) (fits_wf (fits_getD h.fz 1)) (fits_wf (fits_getD h.fz 2)) (fits_wf (fits_getD h.fz 3)) (fits_wf (fits_getD h.fz 4)) (fits_wf (fits_getD h.fz 5))
theorem key_of {n : Nat} {x : Sb} (h : Kx n x) : keyOf Tryz.prog 134 (keyV x.1 x.2.1 x.2.2) = some (keyL x) := by
  obtain ⟨d, hd⟩ := size_big
  have hk := key_lits h d
  have ht : Tryz.prog.keyType 134 = true := by kernel_rfl
  have hf : (keyV x.1 x.2.1 x.2.2).formed Tryz.prog 134 = true := by simp [Value.formed, Tryz.underlying134, cells_key]
  unfold keyOf
  rw [hd, hk, ht, hf, Tryz.underlying134]
  rfl
theorem getD_all {l m : List Int} (hl : l.length = m.length) (h : ∀ i, i < l.length → l.getD i 0 = m.getD i 0) : l = m := by
  apply List.ext_getElem hl
  intro i h1 h2
  have := h i h1
  simpa [h1, h2] using this
theorem key_inj {n : Nat} {x y : Sb} (hx : Kx n x) (hy : Kx n y) (e : keyL x = keyL y) : x = y := by
  obtain ⟨d, hd⟩ := size_big
  have e1 : keyBytes (keyLs x.1 x.2.1 x.2.2) = keyBytes (keyLs y.1 y.2.1 y.2.2) := by injection e
  have e2 := keyLits_inj (key_lits hx d) (key_lits hy d) e1
  have e3 : keyNums x.1 x.2.1 x.2.2 = keyNums y.1 y.2.1 y.2.2 := by
    unfold keyLs at e2
    exact (List.map_inj_right (fun a b h => by injection h)).1 e2
  simp only [keyNums, List.cons.injEq, and_true] at e3
  obtain ⟨hp, hl, v0, v1, v2, v3, z0, z1, z2, z3, z4, z5⟩ := e3
  have hlz : x.2.2.length = y.2.2.length := by omega
  have hv : x.2.1 = y.2.1 := getD_all (hx.lv.trans hy.lv.symm) fun i hi => by
    have := hx.n4
    have := hx.lv
    match i, (by omega : i < 4) with
    | 0, _ => exact v0
    | 1, _ => exact v1
    | 2, _ => exact v2
    | 3, _ => exact v3
  have hz : x.2.2 = y.2.2 := getD_all hlz fun i hi => by
    have := hx.lz
    match i, (by omega : i < 6) with
    | 0, _ => exact z0
    | 1, _ => exact z1
    | 2, _ => exact z2
    | 3, _ => exact z3
    | 4, _ => exact z4
    | 5, _ => exact z5
  exact Prod.ext hp (Prod.ext hv hz)

def metOf {H : Type} (bs : List Sb) : DataW H := bs.foldl (fun D x => D.put (keyL x) (.lit (.bool true))) (.map [])
theorem metOf_snoc {H : Type} (bs : List Sb) (x : Sb) : (metOf (bs ++ [x]) : DataW H) = (metOf bs).put (keyL x) (.lit (.bool true)) := by simp [metOf, List.foldl_append]
theorem keyL_ok (x : Sb) : WideAt.IsKeyLit (keyL x) := trivial
structure MetSays {H : Type} (n : Nat) (bs : List Sb) : Prop where
  tidy : Tidy (metOf bs : DataW H)
  at_ : ∀ x : Sb, Kx n x → (metOf bs : DataW H).atKey (keyL x) (.lit (.bool false)) = .lit (.bool (decide (x ∈ bs)))
theorem metSays {H : Type} {n : Nat} : ∀ (k : Nat) (bs : List Sb), bs.length = k → (∀ y ∈ bs, Kx n y) → MetSays (H := H) n bs
  | 0, bs, hl, _ => by
    obtain rfl : bs = [] := List.eq_nil_of_length_eq_zero hl
    exact ⟨tidy_empty, fun x _ => by simp [metOf, DataW.atKey]⟩
  | k + 1, bs, hl, hb => by
    rcases snoc_cases bs with rfl | ⟨a, c, rfl⟩
    · simp at hl
    · have ih := metSays (H := H) k a (by simpa using hl) fun y hy => hb y (by simp [hy])
      refine ⟨?_, fun x hx => ?_⟩
      · rw [metOf_snoc]
        exact ih.tidy.put (keyL_ok c) _
      · rw [metOf_snoc]
        by_cases h : x = c
        · subst h
          rw [Maps.atKey_put_same ih.tidy.isMap (keyL_ok x)]
          simp
        · rw [Maps.atKey_put_other (fun e => h (key_inj hx (hb c (by simp)) e)), ih.at_ x hx]
          simp [h]
theorem key_row : (134 : TypeId) < Tryz.prog.types.size := of_decide_eq_true (by kernel_rfl)
theorem key_wide : (match Tryz.prog.underlying 134 with | some (.array _ _) | some (.struct _) => true | _ => false) = true := by kernel_rfl
set_option maxRecDepth 100000 in
theorem key_laid : laidOutB Tryz.prog = true := by kernel_rfl
set_option maxRecDepth 100000 in
theorem lawKey : Keyed Tryz.prog 134 := Keyed.of_law (deep_law_laid key_laid (m := 3) (by omega) key_row (by kernel_rfl) key_wide)
theorem zeroB (w : World) : (zeroValue 4).run Tryz.prog w = .ok (.bool false) w := by kernel_rfl
/-- A map of the states that have been met. -/
def Met (H : Type) (w : World) (mb : Nat) (bs : List Sb) : Prop := w.ownsMap (H := H) Tryz.prog 134 (plainElem Tryz.prog 4) mb bs.length (metOf bs)
theorem plain_bool_inv {H : Type} {P : Program} {e : TypeId} (he : P.underlying e = some .bool) {v : Value} {c : Bool} {ps : List MemPlace} (h : plainElem (H := H) P e v = some (.lit (.bool c), ps)) : v = .bool c := by
  unfold plainElem at h
  rw [he] at h
  cases v <;> simp_all
section
variable {H : Type} {w w' : World} {mb n : Nat} {bs : List Sb}
theorem Met.run (h : Met H w mb bs) (hb : ∀ y ∈ bs, Kx n y) {x : Sb} (hx : Kx n x) : (Instr.lookup 95 (.map (some mb)) (keyV x.1 x.2.1 x.2.2) false).run Tryz.prog w = .ok (.bool (decide (x ∈ bs))) w := by
  obtain ⟨v, ps, hr, hv⟩ := World.ownsMap.lookup h lawKey Tryz.underlying95 (zeroB w) (plainElem_bool Tryz.underlying4 false) (key_of hx)
  rw [(metSays (H := H) _ bs rfl hb).at_ x hx] at hv
  rw [plain_bool_inv Tryz.underlying4 hv] at hr
  exact hr
theorem Met.store (h : Met H w mb bs) (hl : bs.length < maxLen) {x : Sb} (hx : Kx n x) : ∃ w', (Instr.mapUpdate 95 (.map (some mb)) (keyV x.1 x.2.1 x.2.2) (.bool true)).run Tryz.prog w = .ok () w' ∧ Met H w' mb (bs ++ [x]) ∧ w.grownBy w' (some mb) := by
  obtain ⟨w', hr, ho, hg⟩ := World.ownsMap.update h lawKey Tryz.underlying95 hl (key_of hx) (plainElem_bool Tryz.underlying4 true)
  refine ⟨w', hr, ?_, hg⟩
  unfold Met
  rw [metOf_snoc, List.length_append]
  exact ho
theorem Met.kept {r : Option Nat} (h : Met H w mb bs) (hg : w.grownBy w' r) (hr : some mb ≠ r) : Met H w' mb bs := World.ownsMap.kept h hg hr
theorem Met.below (h : Met H w mb bs) (hb : Below w.heap.size w w') : Met H w' mb bs := World.ownsMap.kept (row := none) h ⟨hb.os, hb.tape, hb.output, hb.size, fun k hk _ => hb.block k hk⟩ (by simp)
theorem Met.lt (h : Met H w mb bs) : mb < w.heap.size := World.ownsMap.lt h
end
end Go.Proofs.YtpmmjaceehlpiaaGreatDoor
/-
  The program's list of states: one is added that is not there yet.
-/
namespace Go.Proofs.YtpmmjaceehlpiaaGreatDoor
open Go Go.RowKit Go.ChangeShapes Go.WideShapes Go.ChangeAt Go.Maps

/-- A store into a map of one's own, as a step of a region. -/
theorem step_update_own {P : Program} {ops : Array Oper} {o : Oper} {act : Act} {K : Act → World → Prop} {Q : Exit → Act → World → Prop} {E : Prop} (w : World) (hgd : o.guard = none) (m x u : Operand) (t : TypeId) (ho : o.op = Op.mapUpdate t m x u)
    (vm key val : Value) (hm : act.eval m = vm) (hx : act.eval x = key) (hu : act.eval u = val) (w1 : World) (hrun : (Instr.mapUpdate t vm key val).run P w = .ok () w1) (h : K (act.put o.dst undef) w1) :
    if Region.wanted o (yielded ops act.tmps) = true then Oper.wp P o act w K Q else E := by
  have hw : Region.wanted o (yielded ops act.tmps) = true := by simp [Region.wanted, hgd]
  rw [if_pos hw]
  unfold Oper.wp
  simp [execOp, ho, hm, hx, hu, hrun, Result.andThen]
  exact h

theorem BoxL.onlyA {S : Nat → Prop} {W W' : World} {g : Nat} {xs : List Value} (h : BoxL W g xs) (t : Only S W W') (hd : ¬ S g) : BoxL W' g xs :=
  ⟨fun i x hx => (World.cell?_of_block (t.block g h.lt hd)).trans (h.c i x hx), fun o => (World.frozen?_of_block (t.block g h.lt hd)).trans (h.f o), Nat.lt_of_lt_of_le h.lt t.size⟩
/-- The list: its box at L, its map at mb, its states. -/
structure ListIs (H : Type) (base L mb n : Nat) (bs : List Sb) (w : World) (v : Value) (ss : List Sp) : Prop where
  box : BoxL w L [v, .map (some mb)]
  met : Met H w mb bs
  body : ss.map Sp.body = bs
  own : w.ownsRow base 34 3 v ss.length (spVals ss)
  ins : HeapsIn base w (ss.map Sp.h)
  off : ∀ k, v.ownBlock = some k → ¬ hasAny (ss.map Sp.h) k
  kx : ∀ y ∈ bs, Kx n y
  hL : L < base
  hmb : mb < L
section
variable {H : Type} {base L mb n : Nat} {bs : List Sb} {w w' : World} {v : Value} {ss : List Sp}
theorem ListIs.below (h : ListIs H base L mb n bs w v ss) (hb : Below w.heap.size w w') : ListIs H base L mb n bs w' v ss :=
  ⟨h.box.below hb, h.met.below hb, h.body, own_keeps h.own hb, h.ins.below hb, h.off, h.kx, h.hL, h.hmb⟩
theorem ListIs.len (h : ListIs H base L mb n bs w v ss) : ss.length = bs.length := by rw [← h.body, List.length_map]
end
/-- What an addition leaves. -/
def AddEnd (H : Type) (base L mb n : Nat) (bs : List Sb) (v : Value) (ss : List Sp) (w : World) (e : Ending) (w' : World) : Prop :=
  e = .returned (.tuple #[]) ∧ ∃ v' ss', ListIs H base L mb n bs w' v' ss' ∧ (∃ r, ss' = ss ++ r) ∧ Only (fun k => k = L ∨ k = mb ∨ v.ownBlock = some k) w w' ∧ (v'.ownBlock = v.ownBlock ∨ ∃ k, v'.ownBlock = some k ∧ w.heap.size ≤ k)
theorem Met.only {H : Type} {S : Nat → Prop} {w w' : World} {mb : Nat} {bs : List Sb} (h : Met H w mb bs) (t : Only S w w') (hd : ¬ S mb) : Met H w' mb bs := by
  have hlt := h.lt
  obtain ⟨es, clock, hb, F, hs, hD⟩ := h
  exact ⟨es, clock, (t.block mb hlt hd).trans hb, F, hs, hD⟩
theorem add_done {H : Type} {base L mb n g9 cap9 : Nat} {bs : List Sb} {va : Option Addr} {vc : Nat} {ss : List Sp} {p : Int} {N : Hp} {w W3 w4 w9 : World} (HL3 : ListIs H base L mb n bs W3 (.slice va ss.length vc) ss) (hB3 : Below w.heap.size w W3)
    (hN : N.In base w.heap.size w) (hNs : ∀ y ∈ ss, ∀ k, y.h.has k → ¬ N.has k) (hNv : ∀ k, (Value.slice va ss.length vc).ownBlock = some k → ¬ N.has k) (hx : Kx n (p, N.body)) (hm : (p, N.body) ∉ bs)
    (hM4 : Met H w4 mb (bs ++ [(p, N.body)])) (ho4 : Only (fun k => k = mb) W3 w4) (hob9 : Only (fun k => (Value.slice va ss.length vc).ownBlock = some k) w4 w9) (hbl9 : BoxL w9 L [.slice va ss.length vc, .map (some mb)])
    (hown9 : w9.ownsRow base 34 3 (.slice (some ⟨g9, 0, none⟩) (ss.length + 1) cap9) (ss.length + 1) (spVals ss ++ [.int .i64 p, .slice N.a N.vs.length N.ca, .slice N.b N.zs.length N.cb])) (hat9 : (Value.slice va ss.length vc).ownBlock = some g9 ∨ w4.heap.size ≤ g9) :
    AddEnd H base L mb n (putS bs (p, N.body)) (.slice va ss.length vc) ss w (.returned (.tuple #[])) (w9.setCell ⟨L, 0, none⟩ (.slice (some ⟨g9, 0, none⟩) (ss.length + 1) cap9)) := by
  have hLb := HL3.hL
  have hmL := HL3.hmb
  have hz3 := hB3.size
  have hz34 := ho4.size
  have hoV : Only (fun k => k = L) w9 (w9.setCell ⟨L, 0, none⟩ (.slice (some ⟨g9, 0, none⟩) (ss.length + 1) cap9)) := Only.set (S := fun k => k = L) rfl
  have hvb : ∀ k, (Value.slice va ss.length vc).ownBlock = some k → base ≤ k ∧ k < W3.heap.size := fun k hk => HL3.own.lt k hk
  have hallS : Only (fun k => k = L ∨ k = mb ∨ (Value.slice va ss.length vc).ownBlock = some k) W3 (w9.setCell ⟨L, 0, none⟩ (.slice (some ⟨g9, 0, none⟩) (ss.length + 1) cap9)) :=
    ((ho4.mono fun k h => .inr (.inl h)).trans (hob9.mono fun k h => .inr (.inr h))).trans (hoV.mono fun k h => .inl h)
  have hN3 : N.In base W3.heap.size W3 := (hN.same hz3 fun k hk => hB3.block k (hN.has_lt hk).2).mono (Nat.le_refl _) hz3 (Nat.le_refl _)
  have hins3 : HeapsIn base W3 ((ss ++ [(⟨p, N⟩ : Sp)]).map Sp.h) := by
    rw [List.map_append]
    refine HL3.ins.snoc hN3 fun y hy k hk => ?_
    obtain ⟨z, hz, rfl⟩ := List.mem_map.1 hy
    exact hNs z hz k hk
  have hoff3 : ∀ k, (Value.slice va ss.length vc).ownBlock = some k → ¬ hasAny ((ss ++ [(⟨p, N⟩ : Sp)]).map Sp.h) k := by
    rintro k hk ⟨y, hy, hyk⟩
    rw [List.map_append] at hy
    rcases List.mem_append.1 hy with hy | hy
    · exact HL3.off k hk ⟨y, hy, hyk⟩
    · rw [List.map_cons, List.map_nil] at hy
      rw [List.mem_singleton.1 hy] at hyk
      exact hNv k hk hyk
  have hkx : ∀ y ∈ bs ++ [(p, N.body)], Kx n y := fun y hy => by
    rcases List.mem_append.1 hy with hy | hy
    · exact HL3.kx y hy
    · rw [List.mem_singleton.1 hy]
      exact hx
  refine ⟨rfl, .slice (some ⟨g9, 0, none⟩) (ss.length + 1) cap9, ss ++ [⟨p, N⟩], ⟨hbl9.set 0 _, (hM4.only hob9 fun e => by have := (hvb mb e).1; omega).only hoV (by omega) |> (by rw [putS, if_neg hm]; exact ·), ?_, ?_, ?_, ?_, by rw [putS, if_neg hm]; exact hkx, hLb, hmL⟩, ⟨_, rfl⟩, (Only.of_below hB3).trans hallS, ?_⟩
  · rw [putS, if_neg hm, List.map_append, HL3.body]
    rfl
  · rw [List.length_append, show spVals (ss ++ [(⟨p, N⟩ : Sp)]) = spVals ss ++ spCells ⟨p, N⟩ from fl_snoc ss _]
    exact ownsRow_setCell_below hown9 (a := ⟨L, 0, none⟩) hLb _
  · refine hins3.same hallS.size fun x hx k hk => hallS.block k (hins3.has_lt hx hk).2 ?_
    have hk2 := (hins3.has_lt hx hk).1
    rintro (e | e | e)
    · omega
    · omega
    · exact hoff3 k e ⟨x, hx, hk⟩
  · intro k hk
    have hk : g9 = k := Option.some.inj hk
    rcases hat9 with e | e
    · rw [hk] at e
      exact hoff3 k e
    · rintro ⟨y, hy, hyk⟩
      have := (hins3.has_lt hy hyk).2
      omega
  · rcases hat9 with e | e
    · exact .inl e.symm
    · exact .inr ⟨g9, rfl, by omega⟩
set_option maxRecDepth 100000 in
set_option maxHeartbeats 3200000 in
theorem implAdd {H : Type} (base L mb n : Nat) (bs : List Sb) (v : Value) (ss : List Sp) (p : Int) (N : Hp) (w : World) (hl : ListIs H base L mb n bs w v ss) (hx : Kx n (p, N.body)) (hN : N.In base w.heap.size w) (hNs : ∀ y ∈ ss, ∀ k, y.h.has k → ¬ N.has k) (hNv : ∀ k, v.ownBlock = some k → ¬ N.has k) (hbase : base ≤ w.heap.size) (hlen : bs.length ≤ 16777216) :
    Calls Tryz.prog 62 #[.pointer (some ⟨L, 0, none⟩), spC p N.a N.vs.length N.ca N.b N.zs.length N.cb] w (AddEnd H base L mb n (putS bs (p, N.body)) v ss w) := by
  obtain ⟨i0, hi9, hz0, hz1, hz2⟩ := info_parts stateInfo
  obtain ⟨va, vc, rfl⟩ := own_shape2 hl.own
  have hb0 := (Below.refl w.heap.size w).alloc (Nat.le_refl _) (.cells #[.int .i64 p, .slice N.a N.vs.length N.ca, .slice N.b N.zs.length N.cb] 34)
  have hbx : BoxL (w.alloc (.cells #[.int .i64 p, .slice N.a N.vs.length N.ca, .slice N.b N.zs.length N.cb] 34)) w.heap.size [.int .i64 p, .slice N.a N.vs.length N.ca, .slice N.b N.zs.length N.cb] := BoxL.new w _ _
  have hlv : N.vs.length ≤ 4 := by have h1 : N.vs.length = n := hx.lv; have := hx.n4; omega
  have hlz : N.zs.length ≤ 6 := hx.lz
  have HX := Lib.hid hx
  have HL := Lib.hid hl
  have HN := Lib.hid hN
  have HNS := Lib.hid hNs
  have HNV := Lib.hid hNv
  clear hl hx hN hNs hNv
  go_enter Tryz.func62, Tryz.ntmps62
  go_wp2_with fail
  obtain ⟨W0, hW0⟩ : ∃ W, w.alloc (.cells #[.int .i64 p, .slice N.a N.vs.length N.ca, .slice N.b N.zs.length N.cb] 34) = W := ⟨_, rfl⟩
  rw [hW0] at hb0 hbx ⊢
  clear hW0
  refine (implKeyOf p N.a N.b N.ca N.cb N.vs N.zs _ hlv hlz (HN.out.at_.below hb0)).mono ?_
  rintro e w1 ⟨rfl, hb1⟩
  have hB1 := hb0.trans (hb1.mono hb0.size)
  have bx1 := hbx.below hb1
  have hzw := hbx.lt
  have hz1' := hb1.size
  have L1 := HL.out.below hB1
  have hrun : ∀ W, Met H W mb bs → (Instr.lookup 95 (.map (some mb)) (keyV p N.vs N.zs) false).run Tryz.prog W = .ok (.bool (decide ((p, N.body) ∈ bs))) W := fun W h => h.run HL.out.kx HX.out
  have hst : ∀ W, Met H W mb bs → ∃ w', (Instr.mapUpdate 95 (.map (some mb)) (keyV p N.vs N.zs) (.bool true)).run Tryz.prog W = .ok () w' ∧ Met H w' mb (bs ++ [(p, N.body)]) ∧ W.grownBy w' (some mb) := fun W h => h.store (by unfold maxLen; omega) HX.out
  unfold keyV at hrun hst ⊢
  generalize N.vs.getD 0 0 = n0 at *
  generalize N.vs.getD 1 0 = n1 at *
  generalize N.vs.getD 2 0 = n2 at *
  generalize N.vs.getD 3 0 = n3 at *
  generalize N.zs.getD 0 0 = m0 at *
  generalize N.zs.getD 1 0 = m1 at *
  generalize N.zs.getD 2 0 = m2 at *
  generalize N.zs.getD 3 0 = m3 at *
  generalize N.zs.getD 4 0 = m4 at *
  generalize N.zs.getD 5 0 = m5 at *
  generalize hnz : (N.zs.length : Int) = mz at hrun hst
  have hzl : 0 ≤ mz := by omega
  have LL1 := Lib.hid L1
  have HRUN := Lib.hid hrun
  have HST := Lib.hid hst
  have HNZ := Lib.hid hnz
  clear hbx hb0 L1 hrun hst hnz
  obtain ⟨W2, hW2, hb2, bk⟩ : ∃ W2, w1.alloc (.cells #[.int .i64 p, .int .i64 mz, .int .i64 n0, .int .i64 n1, .int .i64 n2, .int .i64 n3, .int .i64 m0, .int .i64 m1, .int .i64 m2, .int .i64 m3, .int .i64 m4, .int .i64 m5] 134) = W2 ∧ Below w1.heap.size w1 W2 ∧ BoxL W2 w1.heap.size [.int .i64 p, .int .i64 mz, .int .i64 n0, .int .i64 n1, .int .i64 n2, .int .i64 n3, .int .i64 m0, .int .i64 m1, .int .i64 m2, .int .i64 m3, .int .i64 m4, .int .i64 m5] := ⟨_, rfl, (Below.refl _ _).alloc (Nat.le_refl _) _, BoxL.new w1 _ _⟩
  have bx2 := bx1.below hb2
  have L2 := LL1.out.below hb2
  have l0 := L2.box.c 0 _ rfl
  have l1 := L2.box.c 1 _ rfl
  have k0 := bk.c 0 _ rfl
  have k1 := bk.c 1 _ rfl
  have k2 := bk.c 2 _ rfl
  have k3 := bk.c 3 _ rfl
  have k4 := bk.c 4 _ rfl
  have k5 := bk.c 5 _ rfl
  have k6 := bk.c 6 _ rfl
  have k7 := bk.c 7 _ rfl
  have k8 := bk.c 8 _ rfl
  have k9 := bk.c 9 _ rfl
  have k10 := bk.c 10 _ rfl
  have k11 := bk.c 11 _ rfl
  have hr2 : ∀ d, (Instr.lookup 95 (.map (some mb)) (.agg #[.int .i64 p, .int .i64 mz, .int .i64 n0, .int .i64 n1, .int .i64 n2, .int .i64 n3, .int .i64 m0, .int .i64 m1, .int .i64 m2, .int .i64 m3, .int .i64 m4, .int .i64 m5]) false).run Tryz.prog (W2.drewN d) = .ok (.bool (decide ((p, N.body) ∈ bs))) (W2.drewN d) := fun d => by
    exact HRUN.out (W2.drewN d) (L2.met.below (below_draws (Below.refl _ _) d))
  go_wp2
  (try rw [hW2])
  clear hW2
  go_quiet (fail)
  have hB2 := hB1.trans (hb2.mono hB1.size)
  have hd3 : Below W2.heap.size W2 (W2.drewN nq) := below_draws (Below.refl _ _) nq
  have bx3 := bx2.below hd3
  have bk3 := bk.below hd3
  have L3 := L2.below hd3
  have hB3 := hB2.trans (hd3.mono hB2.size)
  have hz23 : W2.heap.size = (W2.drewN nq).heap.size := rfl
  have hzk := bk3.lt
  have hzx := bx3.lt
  clear hr2 l0 l1 k0 k1 k2 k3 k4 k5 k6 k7 k8 k9 k10 k11 hd3 bx2 bk L2 hb2 hB2 hz23 bx1
  generalize W2.drewN nq = W3 at *
  obtain ⟨isin, hisin⟩ : ∃ q, decide ((p, N.body) ∈ bs) = q := ⟨_, rfl⟩
  rw [hisin]
  cases isin
  case' true =>
    have hm : (p, N.body) ∈ bs := of_decide_eq_true hisin
    have HE := Lib.hid (show AddEnd H base L mb n (putS bs (p, N.body)) (.slice va ss.length vc) ss w (.returned (.tuple #[])) W3 from ⟨rfl, _, ss, by rw [putS, if_pos hm]; exact L3, ⟨[], by simp⟩, Only.of_below hB3, .inl rfl⟩)
    clear hm hisin bx3 bk3 L3 hB3
    go_wp2
    exact bodyPost_ret (v := .tuple #[]) (by simp [results, Tryz.results62, go_sem]) rfl HE.out
  case' false =>
    have hm : (p, N.body) ∉ bs := of_decide_eq_false hisin
    have hmet3 : Met H W3.drew mb bs := L3.met.below (Below.drew (Below.refl _ _))
    obtain ⟨w4, hrun4, hm4, hg4⟩ := HST.out W3.drew hmet3
    have hmbL := HL.out.hmb
    have hLb := HL.out.hL
    have ho4 : Only (fun k => k = mb) W3 w4 := (Only.of_below (Below.drew (Below.refl _ _))).trans (Only.of_grown hg4 fun k hk => (Option.some.inj hk).symm)
    have hbx4 : BoxL w4 w.heap.size [.int .i64 p, .slice N.a N.vs.length N.ca, .slice N.b N.zs.length N.cb] := bx3.onlyA ho4 (by omega)
    have hbl4 : BoxL w4 L [.slice va ss.length vc, .map (some mb)] := L3.box.onlyA ho4 (by omega)
    have hown4 : w4.ownsRow base 34 3 (.slice va ss.length vc) ss.length (spVals ss) := own_other (own_keeps L3.own (Below.drew (Below.refl _ _))) hg4 (fun k hk e => by have h1 := (L3.own.lt k hk).1; have h2 := Option.some.inj e; omega)
    have l1 := L3.box.c 1 _ rfl
    have k0 := bk3.c 0 _ rfl
    have k1 := bk3.c 1 _ rfl
    have k2 := bk3.c 2 _ rfl
    have k3 := bk3.c 3 _ rfl
    have k4 := bk3.c 4 _ rfl
    have k5 := bk3.c 5 _ rfl
    have k6 := bk3.c 6 _ rfl
    have k7 := bk3.c 7 _ rfl
    have k8 := bk3.c 8 _ rfl
    have k9 := bk3.c 9 _ rfl
    have k10 := bk3.c 10 _ rfl
    have k11 := bk3.c 11 _ rfl
    have HBX3 := Lib.hid bx3
    have HM := Lib.hid hm
    have HL3 := Lib.hid L3
    have HB3 := Lib.hid hB3
    have HOWN4 := Lib.hid hown4
    have HBX4 := Lib.hid hbx4
    have HBL4 := Lib.hid hbl4
    have HM4 := Lib.hid hm4
    have HO4 := Lib.hid ho4
    clear hisin hm hmet3 bx3 bk3 L3 hB3 hown4 hbx4 hbl4 hm4 hg4 ho4
    go_wp2
    go_region_law (refine step_update_own _ rfl _ _ _ 95 rfl (.map (some mb)) (.agg #[.int .i64 p, .int .i64 mz, .int .i64 n0, .int .i64 n1, .int .i64 n2, .int .i64 n3, .int .i64 m0, .int .i64 m1, .int .i64 m2, .int .i64 m3, .int .i64 m4, .int .i64 m5]) (.bool true) rfl rfl rfl w4 hrun4 ?_)
    all_goals
      clear l1 k0 k1 k2 k3 k4 k5 k6 k7 k8 k9 k10 k11 hrun4
      have l0 := HBL4.out.c 0 _ rfl
      have x0 := HBX4.out.c 0 _ rfl
      have x1 := HBX4.out.c 1 _ rfl
      have x2 := HBX4.out.c 2 _ rfl
      have lf := HBL4.out.f
      have ll4 := HBL4.out.lt
      have lx4 := HBX4.out.lt
      have lln : ¬ L = w4.heap.size := by omega
      have lxn : ¬ w.heap.size = w4.heap.size := by omega
      have hz4 := HO4.out.size
      go_wp2
      go_region_law (refine step_append_lies _ rfl (.tmp 23) (.tmp 25) 41 rfl base 34 i0 (.agg #[.int .i64 0, .slice none 0 0, .slice none 0 0]) 3 56 Tryz.underlying41 hi9 hz0 hz1 hz2 rfl (by decide) (.slice va ss.length vc) ss.length (spVals ss) ?_ ?_ ⟨w4.heap.size, 0, none⟩ 1 1 [.int .i64 p, .slice N.a N.vs.length N.ca, .slice N.b N.zs.length N.cb] ?_ rfl (lit3_news w4 _ _ _ _) (lit3_one _ _ _ _ _ _ _) (by omega) ?_ ?_ ?_ _ rfl ?_
                     · simp [Act.eval]
                     · exact own_keeps (HOWN4.out.alloc _) (Below.drew (Below.refl _ _))
                     · simp [Act.eval]
                     · have := HL3.out.len; unfold maxLen; omega
                     · have := HL3.out.len; omega
                     · simp; omega
                     intro g9 cap9 w9 hown9 hg9 hat9 hlt9
                     have hob9 : Only (fun k => (Value.slice va ss.length vc).ownBlock = some k) w4 w9 := (Only.of_below (Below.drew ((Below.refl _ _).alloc (Nat.le_refl _) _))).trans (Only.of_grown hg9 fun k hk => hk)
                     have hbl9 := HBL4.out.onlyA hob9 (fun e => by have := (HOWN4.out.lt L e).1; have := HL.out.hL; omega)
                     have d9 := hbl9.c 0 _ rfl
                     have pf9 := hbl9.f)
      all_goals
        exact bodyPost_ret (v := .tuple #[]) (by simp [results, Tryz.results62, go_sem]) rfl (add_done HL3.out HB3.out HN.out HNS.out HNV.out HX.out HM.out HM4.out HO4.out hob9 hbl9 hown9 (hat9.imp id fun e => by rw [e]; simp))
end Go.Proofs.YtpmmjaceehlpiaaGreatDoor
/-
  The program's small heaps: those of one size, and all of them.
-/
namespace Go.Proofs.YtpmmjaceehlpiaaGreatDoor
open Go Go.RowKit Go.ChangeShapes Go.WideShapes Go.ChangeAt

/-- append(v, xs...) at the operation: xs is any row, nil let in. -/
theorem wpList_append_any {P : Program} (w : World) {ops : Array Oper} {rest : List Oper} {o : Oper} {a : Act} {Q : Exit → Act → World → Prop} (hgd : o.guard = none) (s x : Operand) (t : TypeId)
    (ho : o.op = .call { callee := .builtin .append, args := #[s, x], argTypes := #[t, t] })
    (base : Nat) (e : TypeId) (i : TypeInfo) (z : Value) (size bytes : Nat) (ht : P.underlying t = some (.slice e)) (hi : P.info? e = some i) (hz : i.zero = some z)
    (hsize : i.size = size) (hby : i.bytes = bytes) (hzs : z.cells.size = size) (hsz : 0 < size)
    (v : Value) (n : Nat) (xs : List Value) (hs : a.eval s = v) (hown : w.ownsRow base e size v n xs)
    (ad : Option Addr) (m c : Nat) (news : List Value) (hx : a.eval x = .slice ad m c) (hnil : ad = none → m = 0 ∧ c = 0) (hl : news.length = m * size) (hnews : ∀ b, ad = some b → ∀ j u, news[j]? = some u → w.cell? (b.add j) = some u) (h1 : ∀ u ∈ news, u.oneCell' = true)
    (h63 : n + m ≤ maxLen) (hbytes : (n + m) * bytes ≤ 140737488355328) (hbase : base ≤ w.heap.size)
    (h : ∀ v' w', w'.ownsRow base e size v' (n + m) (xs ++ news) → w.grownBy w' v.ownBlock → (v'.ownBlock = v.ownBlock ∨ v'.ownBlock = some w.heap.size) → wpList P ops Q rest (a.put o.dst v') w') :
    wpList P ops Q (o :: rest) a w := by
  cases ad with
  | none =>
    obtain ⟨rfl, rfl⟩ := hnil rfl
    have hr := run_append_owned_none (P := P) w base t o.type e i size ht hi v n xs hown
    have hn0 : news = [] := List.eq_nil_of_length_eq_zero (by simpa using hl)
    subst hn0
    refine wpList_plain hgd fun K hK => ?_
    unfold Oper.wp execOp
    simp only [ho, resolve, invoke, builtin, Sem.run_bind, Sem.run_pure, Result.andThen_ok, List.map_toArray, List.map_cons, List.map_nil, hs, hx, hr]
    exact hK _ _ (h v w (by simpa using hown) ⟨rfl, rfl, rfl, Nat.le_refl _, fun _ _ _ => rfl⟩ (.inl rfl))
  | some b =>
    exact wpList_append_own_at w hgd s x t ho base e i z size bytes ht hi hz hsize hby hzs hsz v n xs hs hown b m c news hx hl (hnews b rfl) h1 h63 hbytes hbase fun v' w' h2 h3 _ h5 => h v' w' h2 h3 h5

/-- Heaps that a call made, in a row of its own: nil let in. -/
structure MadeH (base : Nat) (bs : List (List Int × List Int)) (v : Value) (wr : World) (hs : List Hp) : Prop where
  body : hs.map Hp.body = bs
  own : wr.ownsRow base 30 2 v hs.length (hpVals hs)
  ins : HeapsIn base wr hs
  off : ∀ k, v.ownBlock = some k → ∀ x ∈ hs, ¬ x.has k
section
variable {base : Nat} {bs cs : List (List Int × List Int)} {v v' : Value} {wr wr' wc w' : World} {hs ys : List Hp}
theorem MadeH.start : MadeH base [] (.slice none 0 0) wr [] := ⟨rfl, World.ownsRow_nil _ _ _ _, HeapsIn.nil, fun _ _ x hx => by simp at hx⟩
theorem MadeH.below (h : MadeH base bs v wr hs) (hb : Below wr.heap.size wr wr') : MadeH base bs v wr' hs := ⟨h.body, own_keeps h.own hb, h.ins.below hb, h.off⟩
theorem MadeH.mono {base' : Nat} (h : MadeH base bs v wr hs) (hb : base' ≤ base) : MadeH base' bs v wr hs := ⟨h.body, own_base h.own hb, h.ins.mono hb, h.off⟩
theorem HeapsIn.join (h : HeapsIn base wr hs) (k : HeapsIn base wr ys) (ha : ∀ x ∈ hs, ∀ y ∈ ys, ∀ i, x.has i → ¬ y.has i) : HeapsIn base wr (hs ++ ys) :=
  ⟨fun x hx => (List.mem_append.1 hx).elim (h.each x) (k.each x), List.pairwise_append.2 ⟨h.apart, k.apart, ha⟩⟩
theorem madeH_more (h : MadeH base bs v wc hs) (hy : HeapsIn base wc (hs ++ ys)) (hyk : ∀ k, v.ownBlock = some k → ∀ y ∈ ys, ¬ y.has k) (hyb : ys.map Hp.body = cs)
    (hown : w'.ownsRow base 30 2 v' (hs.length + ys.length) (hpVals hs ++ hpVals ys)) (hg : wc.grownBy w' v.ownBlock) (hl : v'.ownBlock = v.ownBlock ∨ v'.ownBlock = some wc.heap.size) : MadeH base (bs ++ cs) v' w' (hs ++ ys) := by
  have hoff : ∀ k, v.ownBlock = some k → ∀ x ∈ hs ++ ys, ¬ x.has k := fun k hk x hx => (List.mem_append.1 hx).elim (h.off k hk x) (hyk k hk x)
  refine ⟨by rw [List.map_append, h.body, hyb], ?_, hy.same hg.size fun x hx k hk => hg.block k (hy.has_lt hx hk).2 fun e => hoff k e.symm x hx hk, fun k hk x hx => ?_⟩
  · rw [List.length_append, show hpVals (hs ++ ys) = hpVals hs ++ hpVals ys from fl_append hs ys]
    exact hown
  · rcases hl with hl | hl
    · exact hoff k (hl.symm.trans hk) x hx
    · rw [hl] at hk
      have h1 := Option.some.inj hk
      exact fun hx2 => by have := (hy.has_lt hx hx2).2; omega
end
def GaveMade (bs : List (List Int × List Int)) (w : World) (e : Ending) (w' : World) : Prop := ∃ v hs, e = .returned v ∧ MadeH w.heap.size bs v w' hs ∧ Below w.heap.size w w'

theorem made_gave {bs : List (List Int × List Int)} {v : Value} {w wr : World} {hs : List Hp} (h : MadeH w.heap.size bs v wr hs) (hb : Below w.heap.size w wr) : GaveMade bs w (.returned v) wr := ⟨v, hs, rfl, h, hb⟩
theorem madeH_eq {base : Nat} {bs cs : List (List Int × List Int)} {v : Value} {wr : World} {hs : List Hp} (h : MadeH base bs v wr hs) (e : bs = cs) : MadeH base cs v wr hs := e ▸ h
theorem blockS_len {v n : Nat} (hv : v ≤ 4) (hn : n ≤ 3) : (blockS v n).length ≤ 65536 := by
  have h1 := listsS_le (m := n + 1) (n := v) (by omega) hv
  have h2 := listsS_le (m := n + 1) (n := n) (by omega) (by omega)
  exact Nat.le_trans (flat_len _ _ 256 fun hd _ => Nat.le_trans (pairsS_len _ _ _) h2) (by omega)
theorem part_len {v n i k : Nat} (hv : v ≤ 4) (hn : n ≤ 3) (hd : List Int) :
    (((listsS (n + 1) v).take i).flatMap (fun hd => pairsS (v : Int) hd (listsS (n + 1) n)) ++ pairsS (v : Int) hd ((listsS (n + 1) n).take k)).length ≤ 70000 := by
  have h := small_len (c := 3) (i := i) (k := k) hv (Nat.le_refl _) hn hd
  have h1 := listsS_le (m := n + 1) (n := v) (by omega) hv
  have h2 := listsS_le (m := n + 1) (n := n) (by omega) (by omega)
  have p2 := flat_len (fun hd => pairsS (v : Int) hd (listsS (n + 1) n)) ((listsS (n + 1) v).take i) 256 (fun hd _ => Nat.le_trans (pairsS_len _ _ _) h2)
  have p3 := pairsS_len (v : Int) hd ((listsS (n + 1) n).take k)
  rw [List.length_take] at p2 p3
  rw [List.length_append]
  have h3 : min i (listsS (n + 1) v).length * 256 ≤ 65536 := by
    have : min i (listsS (n + 1) v).length ≤ 256 := Nat.le_trans (Nat.min_le_right _ _) h1
    omega
  omega
set_option maxRecDepth 100000 in
set_option maxHeartbeats 3200000 in
theorem implHeapsOf (v n : Nat) (hv : 1 ≤ v ∧ v ≤ 4) (hn : n ≤ 3) (w : World) : Calls Tryz.prog 67 #[.int .i64 (v : Int), .int .i64 (n : Int)] w (GaveMade (blockS v n) w) := by
  obtain ⟨i0, hi9, hz0, hz1, hz2⟩ := info_parts heapInfo
  go_enter Tryz.func67, Tryz.ntmps67
  go_wp2_with fail
  refine (implTargets n n (by omega) hn _).mono ?_
  rintro e w1 ⟨a1, c1, os1, hos1, rfl, hat1, hb1⟩
  have hy1 := hb1.size
  have HOS1 := Lib.hid hos1
  have HAT1 := Lib.hid hat1
  have HB1 := Lib.hid hb1
  clear hos1 hat1 hb1
  go_wp2_with fail
  refine (implTargets v n hv.2 hn _).mono ?_
  rintro e w2 ⟨a2, c2, os2, hos2, rfl, hat2, hb2⟩
  have hy2 := hb2.size
  have hl1 : os1.length = (listsS (n + 1) n).length := by rw [← HOS1.out]; simp
  have hl2 : os2.length = (listsS (n + 1) v).length := by rw [← hos2]; simp
  have hm1 := listsS_le (m := n + 1) (n := n) (by omega) (by omega)
  have hm2 := listsS_le (m := n + 1) (n := v) (by omega) (by omega)
  rw [← hl1] at hm1
  rw [← hl2] at hm2
  have HL1 := Lib.hid hl1
  have HL2 := Lib.hid hl2
  have HOS2 := Lib.hid hos2
  have HATS := Lib.hid (show ∀ W, Below w2.heap.size w2 W → LosAt W a1 os1 ∧ LosAt W a2 os2 from fun W hb => ⟨(HAT1.out.below hb2).below hb, hat2.below hb⟩)
  have HBW := Lib.hid (show ∀ W, Below w2.heap.size w2 W → Below w.heap.size w W from fun W hb => (HB1.out.trans (hb2.mono hy1)).trans (hb.mono (Nat.le_trans hy1 hy2)))
  clear hl1 hl2 hos2 hat2 hb2
  go_wp2
  go_loopw [5, 19] (fun u t wr => ∃ (j : Nat) (hs : List Hp), j ≤ os2.length ∧ t = .int .i64 (j : Int) ∧ MadeH w2.heap.size (((listsS (n + 1) v).take j).flatMap (fun hd => pairsS (v : Int) hd (listsS (n + 1) n))) u wr hs ∧ Below w2.heap.size w2 wr) (fun _ t _ => os2.length - (intOf t).toNat)
  case atStart => exact ⟨0, [], Nat.zero_le _, rfl, MadeH.start, Below.refl _ _⟩
  case round =>
    obtain ⟨j, hs, hj, rfl, hO, hbw⟩ := hrel
    by_cases hlj : j < os2.length
    · have hlj' : j < (listsS (n + 1) v).length := by have := HL2.out; omega
      obtain ⟨⟨b2, o2, e2, _, hc2⟩, _⟩ := (HATS.out _ hbw).2.item j hlj
      have hy : ∀ W, Below w2.heap.size w2 W → Row W W.heap.size os2[j].a (intVals os2[j].xs) := fun W hb => ((HATS.out _ hb).2.item j hlj).2
      have hxs : os2[j].xs = (listsS (n + 1) v)[j] := by
        have h1 : (os2.map Lo.xs)[j]? = (listsS (n + 1) v)[j]? := by rw [HOS2.out]
        simpa [hlj, hlj'] using h1
      have hxl : os2[j].xs.length = v := by rw [hxs]; exact listsS_each (List.getElem_mem hlj')
      have hO0 := madeH_eq hO (show _ = ((listsS (n + 1) v).take j).flatMap (fun hd => pairsS (v : Int) hd (listsS (n + 1) n)) ++ pairsS (v : Int) os2[j].xs ((listsS (n + 1) n).take 0) by simp [pairsS])
      have hnext : ((listsS (n + 1) v).take (j + 1)).flatMap (fun hd => pairsS (v : Int) hd (listsS (n + 1) n)) = ((listsS (n + 1) v).take j).flatMap (fun hd => pairsS (v : Int) hd (listsS (n + 1) n)) ++ pairsS (v : Int) os2[j].xs (listsS (n + 1) n) := by
        rw [hxs]
        exact flat_next (fun hd => pairsS (v : Int) hd (listsS (n + 1) n)) _ j hlj'
      subst e2
      generalize os2[j] = x at *
      have HX := Lib.hid hy
      have HXL := Lib.hid hxl
      have HNEXT := Lib.hid hnext
      have HO0 := Lib.hid hO0
      have HBW0 := Lib.hid hbw
      clear hy hxs hxl hO0 hO hnext hbw
      go_wp2
      go_loopw [5, 25] (fun u t wr => ∃ (k : Nat) (hs : List Hp), k ≤ os1.length ∧ t = .int .i64 (k : Int) ∧ MadeH w2.heap.size (((listsS (n + 1) v).take j).flatMap (fun hd => pairsS (v : Int) hd (listsS (n + 1) n)) ++ pairsS (v : Int) x.xs ((listsS (n + 1) n).take k)) u wr hs ∧ Below w2.heap.size w2 wr) (fun _ t _ => os1.length - (intOf t).toNat)
      case atStart => exact ⟨0, hs, Nat.zero_le _, rfl, HO0.out, HBW0.out⟩
      case round =>
        clear HO0 HBW0
        obtain ⟨k, hs, hk, rfl, hO, hbw⟩ := hrel
        by_cases hlk : k < os1.length
        · have hlk' : k < (listsS (n + 1) n).length := by have := HL1.out; omega
          obtain ⟨⟨b1, o1, e1, _, hc1⟩, _⟩ := (HATS.out _ hbw).1.item k hlk
          have hy : ∀ W, Below w2.heap.size w2 W → Row W W.heap.size os1[k].a (intVals os1[k].xs) := fun W hb => ((HATS.out _ hb).1.item k hlk).2
          have hys : os1[k].xs = (listsS (n + 1) n)[k] := by
            have h1 : (os1.map Lo.xs)[k]? = (listsS (n + 1) n)[k]? := by rw [HOS1.out]
            simpa [hlk, hlk'] using h1
          have hyl : os1[k].xs.length = n := by rw [hys]; exact listsS_each (List.getElem_mem hlk')
          have hlen := part_len (n := n) (i := j) (k := k) hv.2 hn x.xs
          have hnx : pairsS (v : Int) x.xs ((listsS (n + 1) n).take (k + 1)) = pairsS (v : Int) x.xs ((listsS (n + 1) n).take k) ++ (if heapB (v : Int) x.xs os1[k].xs = true then [(x.xs, os1[k].xs)] else []) := by
            rw [hys]
            exact flat_next _ _ k hlk'
          have hsl := congrArg List.length hO.body
          rw [List.length_map] at hsl
          rw [← hsl] at hlen
          subst e1
          generalize os1[k] = y at *
          obtain ⟨va, vc, rfl⟩ := own_shape2 hO.own
          have hAT : ∀ W, Below w2.heap.size w2 W → HeapAt W x.a y.a x.xs y.xs := fun W hb => ⟨HX.out W hb, hy W hb⟩
          have HAT := Lib.hid hAT
          have HYL := Lib.hid hyl
          have HNX := Lib.hid hnx
          have HO := Lib.hid hO
          have HBR := Lib.hid hbw
          have hmx : x.xs.length ≤ 4 := by have := HXL.out; omega
          have hmy : y.xs.length ≤ 3 := by have := HYL.out; omega
          have hzr : w2.heap.size ≤ wr.heap.size := hbw.size
          clear hy hys hyl hsl hnx hO hAT hbw
          go_wp2_with fail
          have hb5 := (Below.refl wr.heap.size wr).alloc (Nat.le_refl _) (.cells #[.slice x.a x.xs.length x.c, .slice y.a y.xs.length y.c] 30)
          have hbox := BoxL.new wr [.slice x.a x.xs.length x.c, .slice y.a y.xs.length y.c] 30
          replace hbox : BoxL (wr.alloc (.cells #[.slice x.a x.xs.length x.c, .slice y.a y.xs.length y.c] 30)) wr.heap.size [.slice x.a x.xs.length x.c, .slice y.a y.xs.length y.c] := hbox
          obtain ⟨WD, hWD⟩ : ∃ W, wr.alloc (.cells #[.slice x.a x.xs.length x.c, .slice y.a y.xs.length y.c] 30) = W := ⟨_, rfl⟩
          rw [hWD] at hb5 hbox ⊢
          clear hWD
          have hbd := HBR.out.trans (hb5.mono hzr)
          refine (implIsHeap (v : Int) x.a y.a x.c y.c x.xs y.xs _ (by unfold maxLen; omega) (by unfold maxLen; omega) (HAT.out _ hbd)).mono ?_
          rintro e w5 ⟨rfl, hb6⟩
          have hbd5 := hbd.trans (hb6.mono hbd.size)
          have hbox5 := hbox.below hb6
          have u0 := hbox5.c 0 _ rfl
          have u1 := hbox5.c 1 _ rfl
          have HO5 := Lib.hid ((HO.out.below hb5).below hb6)
          have HBD5 := Lib.hid hbd5
          have HAT5 := Lib.hid (HAT.out _ hbd5)
          have hz5 := hbd5.size
          have hzr5 : wr.heap.size ≤ w5.heap.size := Nat.le_trans hb5.size hb6.size
          clear hb5 hbox hbd hb6 hbd5 hbox5
          cases hp : heapB (v : Int) x.xs y.xs
          case' false =>
            rw [hp] at HNX
            have HE := Lib.hid (madeH_eq HO5.out (show _ = ((listsS (n + 1) v).take j).flatMap (fun hd => pairsS (v : Int) hd (listsS (n + 1) n)) ++ pairsS (v : Int) x.xs ((listsS (n + 1) n).take (k + 1)) by
              rw [HNX.out, if_neg (by decide), List.append_nil]))
            clear u0 u1
            go_wp2
            go_roundw
            case rel => exact ⟨k + 1, hs, by omega, by go_num, HE.out, HBD5.out⟩
            case measure => simp [intOf]; omega
          case' true =>
            rw [hp] at HNX
            go_wp2_with fail
            refine (implCopy x.a y.a x.c y.c x.xs y.xs _ (by omega) (by omega) HAT5.out).mono ?_
            rintro e w6 ⟨a6, c6, b6, d6, rfl, hin6, hb6⟩
            have HIN6 := Lib.hid hin6
            have HB6 := Lib.hid hb6
            have HO6 := Lib.hid (HO5.out.below hb6)
            have hz6 := hb6.size
            clear hin6 hb6 u0 u1
            go_wp2_with (first
              | (at_builtin; refine wpList_append_own_at _ rfl (.tmp 35) (.tmp 38) 38 rfl w2.heap.size 30 i0 (.agg #[.slice none 0 0, .slice none 0 0]) 2 48 Tryz.underlying38 hi9 hz0 hz1 hz2 rfl (by decide) _ hs.length (hpVals hs) rfl (HO6.out.own.alloc _) ⟨w6.heap.size, 0, none⟩ 1 1 [.slice a6 x.xs.length c6, .slice b6 y.xs.length d6] rfl rfl ?_ ?_ ?_ ?_ ?_ ?_; (focus exact lit2_news _ _ _ _); (focus exact lit2_one _ _ _ _ _ _); (focus (unfold maxLen; omega)); (focus omega); (focus (simp; omega)); intro v7 w7 hown7 hg7 _ hloc7; have HO7 := Lib.hid hown7; have HG7 := Lib.hid hg7; have HL7 := Lib.hid hloc7; clear hown7 hg7 hloc7)
              | fail)
            go_roundw
            case rel =>
              have hg7 : (w6.alloc (.cells #[.slice a6 x.xs.length c6, .slice b6 y.xs.length d6] 30)).grownBy w7 (Value.slice va hs.length vc).ownBlock := HG7.out
              have ha := (Below.refl w6.heap.size w6).alloc (Nat.le_refl _) (.cells #[.slice a6 x.xs.length c6, .slice b6 y.xs.length d6] 30)
              have hN : Hp.In w5.heap.size w6.heap.size w6 ⟨a6, c6, b6, d6, x.xs, y.xs⟩ := HIN6.out
              have hN' : Hp.In w2.heap.size (w6.alloc (.cells #[.slice a6 x.xs.length c6, .slice b6 y.xs.length d6] 30)).heap.size (w6.alloc (.cells #[.slice a6 x.xs.length c6, .slice b6 y.xs.length d6] 30)) ⟨a6, c6, b6, d6, x.xs, y.xs⟩ :=
                (hN.same ha.size (fun q hq => ha.block q (hN.has_lt hq).2)).mono (by omega) ha.size (Nat.le_refl _)
              have hO8 := HO6.out.below ha
              have h7 := madeH_more (ys := [⟨a6, c6, b6, d6, x.xs, y.xs⟩]) (cs := [(x.xs, y.xs)]) hO8 (hO8.ins.snoc hN' fun z hz q hq hq2 => by have := (HO5.out.ins.has_lt hz hq).2; have := (hN.has_lt hq2).1; omega)
                (fun q hq z hz hh => by rw [List.mem_singleton.1 hz] at hh; have := (HO5.out.own.lt q hq).2; have := (hN.has_lt hh).1; omega) rfl HO7.out hg7 HL7.out
              refine ⟨k + 1, hs ++ [⟨a6, c6, b6, d6, x.xs, y.xs⟩], by omega, by go_num, ?_, Only.below (S := fun q => (Value.slice va hs.length vc).ownBlock = some q) (Only.of_grown hg7 fun q hq => hq) ((HBD5.out.trans (HB6.out.mono hz5)).trans (ha.mono (by omega))) (by simp; omega) (fun q hq => (HO6.out.own.lt q hq).1)⟩
              rw [HNX.out, if_pos (by trivial), ← List.append_assoc]
              exact h7
            case measure => simp [intOf]; omega
        · have hke : k = (listsS (n + 1) n).length := by have := HL1.out; omega
          rw [hke, List.take_length, ← HNEXT.out] at hO
          have HN := Lib.hid (And.intro hO hbw)
          clear hO hbw
          go_wp2
          go_roundw
          case rel => exact ⟨j + 1, hs, by omega, by go_num, HN.out.1, HN.out.2⟩
          case measure => simp [intOf]; omega
    · have hje : j = (listsS (n + 1) v).length := by have := HL2.out; omega
      rw [hje, List.take_length] at hO
      have HE := Lib.hid (made_gave (hO.mono (Nat.le_trans hy1 hy2)) (HBW.out _ hbw))
      clear hO hbw
      go_wp2
      go_ret
      exact HE.out
theorem hpVals_ones (hs : List Hp) : ∀ u ∈ hpVals hs, u.oneCell' = true := by
  intro u hu
  obtain ⟨x, _, hx⟩ := List.mem_flatMap.1 hu
  simp only [hpCells, List.mem_cons, List.not_mem_nil, or_false] at hx
  rcases hx with rfl | rfl <;> rfl
theorem sizes_len {v c n : Nat} (hv : v ≤ 4) (hc : c ≤ 3) (hn : n ≤ c + 1) : ((List.range n).flatMap (blockS v)).length ≤ 400000 := by
  have h := flat_len (blockS v) (List.range n) 65536 (fun m hm => by
    have := List.mem_range.1 hm
    exact blockS_len hv (by omega))
  rw [List.length_range] at h
  omega
set_option maxRecDepth 100000 in
set_option maxHeartbeats 1600000 in
theorem implSmall_good (v c : Nat) (hv : 1 ≤ v ∧ v ≤ 4) (hc : c ≤ 3) (w : World) : Calls Tryz.prog 15 #[.int .i64 (v : Int), .int .i64 (c : Int)] w (GaveMade ((List.range (c + 1)).flatMap (blockS v)) w) := by
  obtain ⟨i0, hi9, hz0, hz1, hz2⟩ := info_parts heapInfo
  have q1 : ¬ ((v : Int) < 1) := by omega
  have q2 : ¬ (4 < (v : Int)) := by omega
  have q3 : ¬ ((c : Int) < 0) := by omega
  have q4 : ¬ (3 < (c : Int)) := by omega
  go_enter Tryz.func15, Tryz.ntmps15
  go_wp2
  go_loopw [5, 23] (fun u t wr => ∃ (n : Nat) (hs : List Hp), n ≤ c + 1 ∧ t = .int .i64 (n : Int) ∧ MadeH w.heap.size ((List.range n).flatMap (blockS v)) u wr hs ∧ Below w.heap.size w wr) (fun _ t _ => c + 1 - (intOf t).toNat)
  case atStart => exact ⟨0, [], Nat.zero_le _, rfl, MadeH.start, Below.refl _ _⟩
  case round =>
    clear q1 q2 q3 q4
    obtain ⟨n, hs, hn, rfl, hO, hbw⟩ := hrel
    have hlen := sizes_len hv.2 hc hn
    have hsl := congrArg List.length hO.body
    rw [List.length_map] at hsl
    rw [← hsl] at hlen
    by_cases hlt : n < c + 1
    · have hcond : (n : Int) < (c : Int) + 1 := by omega
      have hle := blockS_len (v := v) (n := n) hv.2 (by omega)
      obtain ⟨va, vc, rfl⟩ := own_shape2 hO.own
      have hzw := hbw.size
      have hbd : (List.range (n + 1)).flatMap (blockS v) = (List.range n).flatMap (blockS v) ++ blockS v n := by simp [List.range_succ]
      have HBD := Lib.hid hbd
      have HO := Lib.hid hO
      have HBW := Lib.hid hbw
      clear hO hbw hsl hbd
      go_wp2_with fail
      refine (implHeapsOf v n hv (by omega) _).mono ?_
      rintro e w1 ⟨v1, ys, rfl, hM1, hb1⟩
      obtain ⟨a1, c1, rfl⟩ := own_shape2 hM1.own
      have hyl := congrArg List.length hM1.body
      rw [List.length_map] at hyl
      rw [← hyl] at hle
      have hy1 := hb1.size
      have HM1 := Lib.hid hM1
      have HB1 := Lib.hid hb1
      have HO1 := Lib.hid (HO.out.below hb1)
      clear hM1 hb1 hyl
      go_wp2_with (first
        | (at_builtin; refine wpList_append_any _ rfl (.tmp 26) (.tmp 29) 38 rfl w.heap.size 30 i0 (.agg #[.slice none 0 0, .slice none 0 0]) 2 48 Tryz.underlying38 hi9 hz0 hz1 hz2 rfl (by decide) (.slice va hs.length vc) hs.length (hpVals hs) rfl HO1.out.own a1 ys.length c1 (hpVals ys) rfl (own_nils HM1.out.own) (fl_length hpCells_length ys) (row_news (OwnIn.of HM1.out.own).row) (hpVals_ones ys) ?_ ?_ ?_ ?_; (focus (unfold maxLen; omega)); (focus omega); (focus omega); intro v7 w7 hown7 hg7 hloc7; have HO7 := Lib.hid hown7; have HG7 := Lib.hid hg7; have HL7 := Lib.hid hloc7; clear hown7 hg7 hloc7)
        | fail)
      go_roundw
      case rel =>
        have hM := madeH_more HO1.out (HO1.out.ins.join (HM1.out.mono (by omega)).ins fun x hx y hy k hk hk2 => by have := (HO.out.ins.has_lt hx hk).2; have := (HM1.out.ins.has_lt hy hk2).1; omega)
          (fun k hk y hy hh => by have := (HO.out.own.lt k hk).2; have := (HM1.out.ins.has_lt hy hh).1; omega) HM1.out.body HO7.out HG7.out HL7.out
        exact ⟨n + 1, hs ++ ys, by omega, by go_num, by rw [HBD.out]; exact hM, Only.below (S := fun q => (Value.slice va hs.length vc).ownBlock = some q) (Only.of_grown HG7.out fun q hq => hq) (HBW.out.trans (HB1.out.mono hzw)) (by omega) (fun q hq => (HO.out.own.lt q hq).1)⟩
      case measure => simp [intOf]; omega
    · obtain rfl : n = c + 1 := by omega
      have HE := Lib.hid (made_gave hO hbw)
      clear hO hbw
      go_wp2
      go_ret
      exact HE.out
set_option maxRecDepth 100000 in
theorem implSmall (v c : Int) (w : World) : Calls Tryz.prog 15 #[.int .i64 v, .int .i64 c] w (GaveMade (smallS v c) w) := by
  by_cases hg : (1 ≤ v ∧ v ≤ 4) ∧ (0 ≤ c ∧ c ≤ 3)
  · obtain ⟨m, rfl⟩ : ∃ m : Nat, v = (m : Int) := ⟨v.toNat, by omega⟩
    obtain ⟨d, rfl⟩ : ∃ d : Nat, c = (d : Int) := ⟨c.toNat, by omega⟩
    have := implSmall_good m d (by omega) (by omega) w
    rw [smallS, if_pos hg]
    simpa using this
  · rw [smallS, if_neg hg]
    have HE := Lib.hid (show GaveMade [] w (.returned (.slice none 0 0)) w from made_gave MadeH.start (Below.refl _ _))
    by_cases h1 : v < 1
    · clear hg
      go_enter Tryz.func15, Tryz.ntmps15
      go_wp2
      go_ret
      exact HE.out
    · by_cases h2 : 4 < v
      · clear hg
        go_enter Tryz.func15, Tryz.ntmps15
        go_wp2
        go_ret
        exact HE.out
      · by_cases h3 : c < 0
        · clear hg
          go_enter Tryz.func15, Tryz.ntmps15
          go_wp2
          go_ret
          exact HE.out
        · have h4 : 3 < c := by omega
          clear hg
          go_enter Tryz.func15, Tryz.ntmps15
          go_wp2
          go_ret
          exact HE.out
end Go.Proofs.YtpmmjaceehlpiaaGreatDoor
/-
  The draws of chapter 9 that need no program: small heaps, two states.
-/
namespace Go.Proofs.YtpmmjaceehlpiaaGreatDoor
open Go Go.RowKit Go.ChangeShapes Go.WideShapes

/-- Two numbers, drawn. -/
def SomeTwo (w : World) (e : Ending) (w' : World) : Prop := ∃ v c : Int, e = .returned (.tuple #[.int .i64 v, .int .i64 c]) ∧ Below w.heap.size w w'
def pickV : List Int := [1, 2, 2, 0, 5]
def pickC : List Int := [0, 1, 2, 2, 3, 4, -1]
theorem is_int9 {l : List Int} {x : Value} (h : x ∈ intVals l) : ∃ z, x = .int .i64 z := by
  obtain ⟨z, _, rfl⟩ := List.mem_map.1 h
  exact ⟨z, rfl⟩
set_option maxHeartbeats 800000 in
theorem drawSmallHeaps (a : Option Addr) (n cap : Nat) (w : World) (hn : n ≤ 1099511627776) (hcode : Code8 w w.heap.size n a) : Calls Tryz.prog 14 #[.slice a n cap] w (SomeTwo w) := by
  go_enter Tryz.func14, Tryz.ntmps14
  go_wp2_with fail
  refine (drawNew a n cap _ hn hcode).mono ?_
  rintro e w1 ⟨g, rfl, hg, hc1, hb1⟩
  have hg1 := hc1.lt
  go_wp2_with fail
  refine (drawPickInt g 5 (some ⟨w1.heap.size, 0, none⟩) pickV _ (by decide) (by decide) (hc1.alloc _) (show Beside _ g _ (intVals pickV) from beside_new _ hg1)).mono ?_
  rintro e w2 ⟨x, hx, rfl, hc2, hw2⟩
  obtain ⟨z, rfl⟩ := is_int9 hx
  have ha := (Below.refl w1.heap.size w1).alloc (Nat.le_refl _) (.cells (intVals pickV).toArray 3)
  have hB2 : Below w.heap.size w w2 := below_only (hb1.trans (ha.mono hb1.size)) hw2 (Nat.le_trans hb1.size ha.size) (by omega)
  have hg2 := hc2.lt
  clear hx hw2 ha
  go_wp2_with fail
  refine (drawPickInt g 7 (some ⟨w2.heap.size, 0, none⟩) pickC _ (by decide) (by decide) (hc2.alloc _) (show Beside _ g _ (intVals pickC) from beside_new _ hg2)).mono ?_
  rintro e w3 ⟨x, hx, rfl, hc3, hw3⟩
  obtain ⟨y, rfl⟩ := is_int9 hx
  have ha := (Below.refl w2.heap.size w2).alloc (Nat.le_refl _) (.cells (intVals pickC).toArray 3)
  have hB3 : Below w.heap.size w w3 := below_only (hB2.trans (ha.mono hB2.size)) hw3 (Nat.le_trans hB2.size ha.size) (by omega)
  clear hx hw3 ha hB2 hb1
  go_wp2
  exact bodyPost_ret (v := .tuple #[.int .i64 z, .int .i64 y]) (by simp [results, Tryz.results14, go_sem]) rfl ⟨z, y, rfl, hB3⟩
/-- Two states, drawn. -/
def SomeStates (w : World) (e : Ending) (w' : World) : Prop :=
  ∃ p a ca b cb vs zs q c cc d cd us ys, e = .returned (.tuple #[spC p a vs.length ca b zs.length cb, spC q c us.length cc d ys.length cd]) ∧ (vs.length ≤ 4 ∧ zs.length ≤ 5 ∧ us.length ≤ 4 ∧ ys.length ≤ 5) ∧ HeapAt w' a b vs zs ∧ HeapAt w' c d us ys ∧ Below w.heap.size w w'
theorem six_ends {w W V : World} {lo hi lo2 hi2 : Nat} {a b c d : Option Addr} {ca cb cc cd : Nat} {vs zs us ys : List Int} (hB : Below w.heap.size w W) (hs : w.heap.size ≤ W.heap.size) (h1 : HeapIn lo hi W a ca b cb (intVals vs) (intVals zs)) (h2 : HeapIn lo2 hi2 W c cc d cd (intVals us) (intVals ys)) (hl : w.heap.size + 2 ≤ lo) (hl2 : w.heap.size + 2 ≤ lo2)
    (t : Turn w.heap.size (w.heap.size + 2) W V) : HeapAt V a b vs zs ∧ HeapAt V c d us ys ∧ Below w.heap.size w V :=
  ⟨(h1.turn t (.inr hl)).rows, (h2.turn t (.inr hl2)).rows, t.below hB (Nat.le_refl _) hs⟩
theorem six_turn (W : World) (b : Nat) (u0 u1 u2 v0 v1 v2 : Value) : Turn b (b + 2) W ((((((W.setCell ⟨b, 0, none⟩ u0).setCell ⟨b, 1, none⟩ u1).setCell ⟨b, 2, none⟩ u2).setCell ⟨b + 1, 0, none⟩ v0).setCell ⟨b + 1, 1, none⟩ v1).setCell ⟨b + 1, 2, none⟩ v2) := by
  have t : ∀ (W : World) (k i : Nat) (u : Value), b ≤ k → k < b + 2 → Turn b (b + 2) W (W.setCell ⟨k, i, none⟩ u) := fun W k i u h1 h2 => (turn_set W k i u).mono h1 (by omega)
  exact (((((t _ _ _ _ (by omega) (by omega)).trans (t _ _ _ _ (by omega) (by omega))).trans (t _ _ _ _ (by omega) (by omega))).trans (t _ _ _ _ (by omega) (by omega))).trans (t _ _ _ _ (by omega) (by omega))).trans (t _ _ _ _ (by omega) (by omega))
theorem six_turn' (W : World) (b : Nat) (u0 u1 u2 v0 v1 v2 : Value) : Turn b (b + 2) W ((((((W.setCell ⟨b + 1, 0, none⟩ v0).setCell ⟨b + 1, 1, none⟩ v1).setCell ⟨b + 1, 2, none⟩ v2).setCell ⟨b, 0, none⟩ u0).setCell ⟨b, 1, none⟩ u1).setCell ⟨b, 2, none⟩ u2) := by
  have t : ∀ (W : World) (k i : Nat) (u : Value), b ≤ k → k < b + 2 → Turn b (b + 2) W (W.setCell ⟨k, i, none⟩ u) := fun W k i u h1 h2 => (turn_set W k i u).mono h1 (by omega)
  exact (((((t _ _ _ _ (by omega) (by omega)).trans (t _ _ _ _ (by omega) (by omega))).trans (t _ _ _ _ (by omega) (by omega))).trans (t _ _ _ _ (by omega) (by omega))).trans (t _ _ _ _ (by omega) (by omega))).trans (t _ _ _ _ (by omega) (by omega))
set_option maxRecDepth 100000 in
set_option maxHeartbeats 3200000 in
theorem drawEqualState (a : Option Addr) (n cap : Nat) (w : World) (hn : n ≤ 1099511627776) (hcode : Code8 w w.heap.size n a) : Calls Tryz.prog 16 #[.slice a n cap] w (SomeStates w) := by
  go_enter Tryz.func16, Tryz.ntmps16
  obtain ⟨W0, hW0, hb0, bn0, bm0⟩ := two_boxL w [.int .i64 0, .slice none 0 0, .slice none 0 0] [.int .i64 0, .slice none 0 0, .slice none 0 0] 34 34
  simp only [List.toArray] at hW0
  have hs0 := bm0.lt
  go_wp2_with fail
  try rw [hW0]
  clear hW0
  refine (drawNew a n cap _ hn ((hcode.keeps fun p hp => hb0.cell hp).grow hb0.size)).mono ?_
  rintro e w1 ⟨g, rfl, hg, hc1, hb1⟩
  have bn1 := bn0.below hb1
  have bm1 := bm0.below hb1
  have hB1 := hb0.trans (hb1.mono hb0.size)
  have hz1 := hb1.size
  have hg1 := hc1.lt
  have hgw : w.heap.size + 2 ≤ g := by omega
  clear bn0 bm0
  go_wp2_with fail
  refine (drawBelow g 2 _ (by omega) (by omega) hc1).mono ?_
  rintro e w2 ⟨x, hx, rfl, hc2, hw2⟩
  have bn2 := bn1.turn (turn_drawn hw2) (.inl (by omega))
  have bm2 := bm1.turn (turn_drawn hw2) (.inl (by omega))
  have hB2 := below_only hB1 hw2 hB1.size (by omega)
  have h12 := hw2.size
  clear bn1 bm1
  go_wp2_with fail
  refine (drawHeapN 2 (by omega) g _ hc2).mono ?_
  rintro e w3 ⟨ra, rca, rb, rcb, vs, zs, rfl, hvl, hzl, hin3, D3⟩
  have HVL := Lib.hid hvl
  have hvl4 : vs.length ≤ 4 := by omega
  clear hvl
  have HNA := Lib.hid (by have h := own_none hin3.v.2.1; exact h)
  have HNB := Lib.hid (by have h := own_none hin3.z.2.1; exact h)
  have bn3 := bn2.turn (turn_drawn D3.grown) (.inl (by omega))
  have bm3 := bm2.turn (turn_drawn D3.grown) (.inl (by omega))
  have hB3 := below_only hB2 D3.grown hB2.size (by omega)
  have h23 := D3.grown.size
  have hc3 := D3.cur
  clear bn2 bm2 D3
  obtain ⟨W3, hW3, bp3, hal3, hz3⟩ : ∃ W, w3.alloc (.cells #[.int .i64 (x : Int), .slice ra vs.length rca, .slice rb zs.length rcb] 34) = W ∧ BoxL W w3.heap.size [.int .i64 (x : Int), .slice ra vs.length rca, .slice rb zs.length rcb] ∧ Below w3.heap.size w3 W ∧ w3.heap.size < W.heap.size :=
    ⟨_, rfl, BoxL.new w3 [.int .i64 (x : Int), .slice ra vs.length rca, .slice rb zs.length rcb] 34, (Below.refl _ _).alloc (Nat.le_refl _) _, by simp⟩
  have hc4 := hc3.keeps hal3
  have bn4 := bn3.below hal3
  have bm4 := bm3.below hal3
  have hin4 := hin3.below hal3
  have hB4 := hB3.trans (hal3.mono hB3.size)
  clear bn3 bm3 hin3 hc3
  go_wp2_with fail
  clear hW3 hal3
  refine (drawOnce g 2 _ (by omega) (by omega) hc4).mono ?_
  rintro e w4 ⟨fl, rfl, hc5, hw5⟩
  have t5 := turn_drawn hw5
  have bn5 := bn4.turn t5 (.inl (by omega))
  have bm5 := bm4.turn t5 (.inl (by omega))
  have bp5 := bp3.turn t5 (.inr (by omega))
  have hin5 := hin4.turn t5 (.inr (by omega))
  have hB5 := below_only hB4 hw5 hB4.size (by omega)
  have h45 := hw5.size
  clear bn4 bm4 bp3 hin4 t5
  have hgp : ¬ w3.heap.size = g := by omega
  have BND := Lib.hid (bn5.below (Below.drew (Below.refl _ _)))
  have BMD := Lib.hid (bm5.below (Below.drew (Below.refl _ _)))
  have BPD := Lib.hid (bp5.below (Below.drew (Below.refl _ _)))
  have HRD := Lib.hid (hin5.below (Below.drew (Below.refl _ _)))
  have p0 := BPD.out.c 0 _ rfl
  have p1 := BPD.out.c 1 _ rfl
  have p2 := BPD.out.c 2 _ rfl
  have m0 := bp5.c 0 _ rfl
  have m1 := bp5.c 1 _ rfl
  have m2 := bp5.c 2 _ rfl
  clear bn5 bm5 bp5 hin5
  cases fl with
  | true =>
    go_wp2
    go_region_law
      (first
        | (go_simp; go_at_call 57; (with_reducible refine (specCopy ra rb rca rcb vs zs _ HNA.out HNB.out HRD.out.rows (by omega) (by omega)).mono ?_); rintro e w5 ⟨sa, sca, sb, scb, rfl, hs5, hb5⟩; have bn5 := BND.out.below hb5; have bm5 := BMD.out.below hb5; have bp5 := BPD.out.below hb5; have hr5 := HRD.out.below hb5; have q0 := bp5.c 0 _ rfl; have q1 := bp5.c 1 _ rfl; have q2 := bp5.c 2 _ rfl; have n0 := bn5.c 0 _ rfl; have n1 := bn5.c 1 _ rfl; have n2 := bn5.c 2 _ rfl; have nf := bn5.f; have hnl := bn5.lt; have k0 := bm5.c 0 _ rfl; have k1 := bm5.c 1 _ rfl; have k2 := bm5.c 2 _ rfl; have kf := bm5.f; have hkl := bm5.lt))
    all_goals
      have hB6 := hB5.drew.trans (hb5.mono (Nat.le_trans hB5.size (Nat.le_refl _)))
      have HE := Lib.hid (fun V t => six_ends (V := V) hB6 hB6.size hr5 hs5 (by omega) (by show _ ≤ w4.heap.size; omega) t)
      clear hr5 hs5 hB6 hb5 bn5 bm5 bp5
      go_wp2
      exact bodyPost_ret (v := .tuple #[spC (x : Int) ra vs.length rca rb zs.length rcb, spC (x : Int) sa vs.length sca sb zs.length scb]) (by simp [results, Tryz.results16, go_sem, n0, n1, n2, k0, k1, k2]) rfl ⟨_, ra, rca, rb, rcb, vs, zs, _, sa, sca, sb, scb, vs, zs, rfl, ⟨hvl4, hzl, hvl4, hzl⟩, HE.out _ (by first | exact six_turn _ _ _ _ _ _ _ _ | exact six_turn' _ _ _ _ _ _ _ _)⟩
  | false =>
    have HC := Lib.hid (hc5.keeps (Below.drew (Below.refl w4.heap.size w4)))
    have hgD : g < w4.drew.heap.size := HC.out.lt
    have hzD : w4.drew.heap.size = w4.heap.size := rfl
    go_wp2
    go_region_law
      (first
        | (go_simp; go_at_call 46; (refine (drawBelow g 2 _ (by omega) (by omega) HC.out).mono ?_); rintro e w5 ⟨y, hy, rfl, hc6, hw6⟩; have t6 := turn_drawn hw6; have BN5 := Lib.hid (BND.out.turn t6 (.inl (by omega))); have BM5 := Lib.hid (BMD.out.turn t6 (.inl (by omega))); have BP5 := Lib.hid (BPD.out.turn t6 (.inr (by omega))); have HR5 := Lib.hid (HRD.out.turn t6 (.inr (by omega))); have h56 := hw6.size; have HB6 := Lib.hid (below_only hB5.drew hw6 hB5.size (by omega)); have r0 := BP5.out.c 0 _ rfl; have r1 := BP5.out.c 1 _ rfl; have r2 := BP5.out.c 2 _ rfl; have hgE : g < w5.heap.size := hc6.lt; clear t6)
        | (go_simp; go_at_call 45; (refine (drawHeapN 2 (by omega) g _ hc6).mono ?_); rintro e w6 ⟨sa, sca, sb, scb, us, ys, rfl, hul, hyl, hin6, D6⟩; have HUL := Lib.hid hul; have hul4 : us.length ≤ 4 := (by omega); clear hul; have t7 := turn_drawn D6.grown; have bn5 := BN5.out.turn t7 (.inl (by omega)); have bm5 := BM5.out.turn t7 (.inl (by omega)); have bp5 := BP5.out.turn t7 (.inr (by omega)); have hr5 := HR5.out.turn t7 (.inr (by omega)); have h67 := D6.grown.size; have hB7 := below_only HB6.out D6.grown HB6.out.size (by omega); have q0 := bp5.c 0 _ rfl; have q1 := bp5.c 1 _ rfl; have q2 := bp5.c 2 _ rfl; have n0 := bn5.c 0 _ rfl; have n1 := bn5.c 1 _ rfl; have n2 := bn5.c 2 _ rfl; have nf := bn5.f; have hnl := bn5.lt; have k0 := bm5.c 0 _ rfl; have k1 := bm5.c 1 _ rfl; have k2 := bm5.c 2 _ rfl; have kf := bm5.f; have hkl := bm5.lt; clear t7 D6))
    all_goals
      have HE := Lib.hid (fun V t => six_ends (V := V) hB7 hB7.size hr5 hin6 (by omega) (by omega) t)
      clear hr5 hin6 hB7 bn5 bm5 bp5
      go_wp2
      exact bodyPost_ret (v := .tuple #[spC (x : Int) ra vs.length rca rb zs.length rcb, spC (y : Int) sa us.length sca sb ys.length scb]) (by simp [results, Tryz.results16, go_sem, n0, n1, n2, k0, k1, k2]) rfl ⟨_, ra, rca, rb, rcb, vs, zs, _, sa, sca, sb, scb, us, ys, rfl, ⟨hvl4, hzl, hul4, hyl⟩, HE.out _ (by first | exact six_turn _ _ _ _ _ _ _ _ | exact six_turn' _ _ _ _ _ _ _ _)⟩
end Go.Proofs.YtpmmjaceehlpiaaGreatDoor
/-
  The program's states that can be reached: the length of the list, and what the edges of a state add.
-/
namespace Go.Proofs.YtpmmjaceehlpiaaGreatDoor
open Go Go.RowKit Go.ChangeShapes Go.WideShapes Go.ChangeAt

theorem implTooLong (L n c : Nat) (a : Option Addr) (m : Value) (w : World) (h : BoxL w L [.slice a n c, m]) (hn : n ≤ 9223372036854775807) :
    Calls Tryz.prog 63 #[.pointer (some ⟨L, 0, none⟩)] w fun e w' => e = .returned (.bool (decide (200 < n))) ∧ w = w' := by
  have c0 := h.c 0 _ rfl
  by_cases h2 : 200 < n
  all_goals
    go_enter Tryz.func63, Tryz.ntmps63
    go_wp2
    go_ret
    exact ⟨by simp [h2]; omega, rfl⟩

theorem fits_small {k : Int} (h1 : -1 ≤ k) (h2 : k ≤ 1000) : Fits k := ⟨by omega, by omega⟩
theorem goodB_fits {zs l : List Int} (hz : zs.length ≤ 6) (h : goodB zs l = true) : ∀ k ∈ l, Fits k := fun k hk => by
  rcases (good_iff.1 h) k hk with e | e
  · exact fits_small (by omega) (by omega)
  · have := isC_iff.1 e
    exact fits_small (by omega) (by omega)
theorem kx_heap {n : Nat} {t : Int} {us ys : List Int} (h : heapB (n : Int) us ys = true) (ht : Fits t) : Kx n (t, (us, ys)) := by
  obtain ⟨⟨h1, h2, h3⟩, h6, g1, g2, _⟩ := heapB_parts h
  exact ⟨by omega, by show us.length = n; omega, h6, ht, goodB_fits h6 g1, goodB_fits h6 g2⟩
/-- What a round adds. -/
def MoreEnd (H : Type) (base L mb n : Nat) (bs : List Sb) (v : Value) (ss : List Sp) (w : World) (e : Ending) (w' : World) : Prop :=
  e = .returned (.tuple #[]) ∧ ∃ v' ss', ListIs H base L mb n bs w' v' ss' ∧ (∃ r, ss' = ss ++ r) ∧ Only (fun k => k = L ∨ k = mb ∨ v.ownBlock = some k) w w' ∧ (v'.ownBlock = v.ownBlock ∨ ∃ k, v'.ownBlock = some k ∧ w.heap.size ≤ k)
theorem own_onlyA {S : Nat → Prop} {W W' : World} {base e size n : Nat} {v : Value} {xs : List Value} (h : W.ownsRow base e size v n xs) (t : Only S W W') (hd : ∀ k, v.ownBlock = some k → ¬ S k) : W'.ownsRow base e size v n xs :=
  ((OwnIn.of h).same t.size fun k hk => t.block k (h.lt k hk).2 (hd k hk)).2.1
theorem fold_len {nm : List ByteArray} {es : List Ed} (st : Sb) : ∀ (ls : List Int) (l : List Sb), (ls.foldl (stepS nm es st) l).length ≤ l.length + ls.length
  | [], l => by simp
  | e :: ls, l => by
    have h1 := fold_len (nm := nm) (es := es) st ls (stepS nm es st l e)
    have h2 : (stepS nm es st l e).length ≤ l.length + 1 := by
      unfold stepS
      split
      · exact (putS_len _ _).2
      · omega
    rw [List.foldl_cons, List.length_cons]
    omega
theorem fold_next {nm : List ByteArray} {es : List Ed} (st : Sb) (ls : List Int) (l : List Sb) (k : Nat) (h : k < ls.length) : (ls.take (k + 1)).foldl (stepS nm es st) l = stepS nm es st ((ls.take k).foldl (stepS nm es st) l) ls[k] := by
  rw [take_next ls k h, List.foldl_append]
  rfl
set_option maxRecDepth 100000 in
set_option maxHeartbeats 3200000 in
theorem implAddAfter {H : Type} (base L mb B0 : Nat) (bs : List Sb) (v : Value) (ss : List Sp) (va : Option Addr) (vc : Nat) (nm : List ByteArray) (np : Int) (ba : Option Addr) (bc : Nat) (es : List Ed) (i : Nat) (hi : i < ss.length) (w : World)
    (hl : ListIs H base L mb nm.length bs w v ss) (hB0 : B0 ≤ mb) (hbase : base ≤ w.heap.size) (hnm : nm.length ≤ maxLen ∧ ∀ s ∈ nm, s.size ≤ maxLen) (hes : es.length ≤ 1048576)
    (key : ∀ W, Below B0 w W → Row W W.heap.size va (strVals nm) ∧ Row W W.heap.size ba (edVals es) ∧ HasNamesTable W) (hfit : ∀ x ∈ es, Fits x.t) (hlen : bs.length + es.length ≤ 16777216) :
    Calls Tryz.prog 64 #[.pointer (some ⟨L, 0, none⟩), .agg #[.slice va nm.length vc, .int .i64 np, .slice ba es.length bc], spC ss[i].p ss[i].h.a ss[i].h.vs.length ss[i].h.ca ss[i].h.b ss[i].h.zs.length ss[i].h.cb] w
      (MoreEnd H base L mb nm.length (addAfterS nm es ss[i].body bs) v ss w) := by
  have hkN : Kx nm.length ss[i].body := hl.kx _ (by rw [← hl.body]; exact List.mem_map_of_mem (List.getElem_mem hi))
  have hat : ∀ (W : World) (ss' : List Sp) (v' : Value) (bs' : List Sb), (∃ r, ss' = ss ++ r) → ListIs H base L mb nm.length bs' W v' ss' → HeapAt W ss[i].h.a ss[i].h.b ss[i].h.vs ss[i].h.zs := by
    rintro W ss' v' bs' ⟨r, rfl⟩ hL
    exact hL.ins.at_ (List.mem_map_of_mem (List.mem_append_left _ (List.getElem_mem hi)))
  obtain ⟨q, hq⟩ : ∃ q, ss[i].p = q := ⟨_, rfl⟩
  obtain ⟨N, hNN⟩ : ∃ N, ss[i].h = N := ⟨_, rfl⟩
  have hst : ss[i].body = (q, N.body) := by rw [← hq, ← hNN]; rfl
  rw [hst] at hkN ⊢
  rw [hNN] at hat ⊢
  rw [hq]
  have hNv : N.vs.length ≤ 4 := by have h1 : N.vs.length = nm.length := hkN.lv; have := hkN.n4; omega
  have hNz : N.zs.length ≤ 6 := hkN.lz
  have hv4 : N.vs.length ≤ maxLen := by unfold maxLen; omega
  have hz4 : N.zs.length ≤ maxLen := by unfold maxLen; omega
  have HAT := Lib.hid hat
  have HK := Lib.hid key
  have HLL := Lib.hid hl
  have HFIT := Lib.hid hfit
  have hvb : ∀ k, v.ownBlock = some k → base ≤ k ∧ k < w.heap.size := fun k hk => hl.own.lt k hk
  have HVB := Lib.hid hvb
  have hLb := hl.hL
  have hmL := hl.hmb
  clear hq hNN hst hat key hl hkN hfit hvb
  go_enter Tryz.func64, Tryz.ntmps64
  go_wp2_with fail
  obtain ⟨W0, hW0, hb0, bp0, bs0⟩ := two_boxL w [.slice va nm.length vc, .int .i64 np, .slice ba es.length bc] [.int .i64 q, .slice N.a N.vs.length N.ca, .slice N.b N.zs.length N.cb] 27 34
  simp only [List.toArray] at hW0
  rw [hW0]
  clear hW0
  refine (implEdgesFrom va ba nm.length vc bc es np q _ hes (HK.out _ (hb0.mono (by omega))).2.1).mono ?_
  rintro e w1 ⟨ag, cg, rfl, hcg, hg, hb1⟩
  rw [intVals_length] at *
  have hB1 := hb0.trans (hb1.mono hb0.size)
  have bp1 := bp0.below hb1
  have bs1 := bs0.below hb1
  have L1 := HLL.out.below hB1
  have hz1 := hB1.size
  have hsz1 := bs1.lt
  have hz0 := bs0.lt
  have hED : ∀ m ∈ posFrom q 0 (fromsOf es), hasEdge es q m = true := fun m hm => edges_has (st := (q, N.body)) hm
  have hpl : (posFrom q 0 (fromsOf es)).length ≤ es.length := Nat.le_trans (posFrom_length _ _ _) (by rw [fromsOf_length]; exact Nat.le_refl _)
  have hgb : ∀ k, (Value.slice ag (posFrom q 0 (fromsOf es)).length cg).ownBlock = some k → W0.heap.size ≤ k := fun k hk => (hg.lt k hk).1
  obtain ⟨ED, hEDD⟩ : ∃ ED, posFrom q 0 (fromsOf es) = ED := ⟨_, rfl⟩
  have hfin : addAfterS nm es (q, N.body) bs = ED.foldl (stepS nm es (q, N.body)) bs := by rw [← hEDD]; rfl
  rw [hEDD] at hED hpl hgb hg
  rw [hEDD]
  have HFIN := Lib.hid hfin
  have HED := Lib.hid hED
  have HG := Lib.hid hg
  have HGB := Lib.hid hgb
  have HL1 := Lib.hid L1
  have HB1 := Lib.hid hB1
  have BP1 := Lib.hid bp1
  have BS1 := Lib.hid bs1
  clear hED hg hgb L1 hB1 bp1 bs1 hEDD hfin hb0 hb1 bp0 bs0 HLL
  go_wp2
  go_loopw [15] (fun t wr => ∃ (j : Nat) (v' : Value) (ss' : List Sp), j ≤ ED.length ∧ t = .int .i64 (j : Int) ∧ ListIs H base L mb nm.length ((ED.take j).foldl (stepS nm es (q, N.body)) bs) wr v' ss' ∧ (∃ r, ss' = ss ++ r) ∧ Only (fun k => k = L ∨ k = mb ∨ v.ownBlock = some k) w1 wr ∧ (v'.ownBlock = v.ownBlock ∨ ∃ k, v'.ownBlock = some k ∧ w1.heap.size ≤ k)) (fun t _ => ED.length - (intOf t).toNat)
  case atStart => exact ⟨0, v, ss, Nat.zero_le _, rfl, HL1.out, ⟨[], by simp⟩, Only.refl, .inl rfl⟩
  case round =>
    obtain ⟨j, v', ss', hj, rfl, hL, hpre, hon, hvv⟩ := hrel
    have hnS : ∀ k, base ≤ w.heap.size → w.heap.size ≤ k → ¬ (k = L ∨ k = mb ∨ v.ownBlock = some k) := by
      rintro k _ hk (h | h | h)
      · omega
      · omega
      · have := (HVB.out k h).2
        omega
    by_cases hlt : j < ED.length
    · have HJ1 := Lib.hid (show j + 1 ≤ ED.length from hlt)
      have bpr := BP1.out.onlyA hon (hnS _ hbase (by omega))
      have bsr := BS1.out.onlyA hon (hnS _ hbase (by omega))
      have hrow : Row wr wr.heap.size ag (intVals ED) := Row.owned (own_onlyA HG.out hon fun k hk => hnS k hbase (by have := HGB.out k hk; omega))
      have hBr : Below B0 w wr := hon.below (HB1.out.mono (by omega)) (by omega) fun k hk => by
        rcases hk with h | h | h
        · omega
        · omega
        · have := (HVB.out k h).1
          omega
      obtain ⟨eb, eo, rfl, _, hec⟩ := hrow j (.int .i64 ED[j]) (intVals_at ED j hlt)
      have hnext := fold_next (nm := nm) (es := es) (q, N.body) ED bs j hlt
      have hin := HED.out ED[j] (List.getElem_mem hlt)
      generalize ED[j] = ed at *
      obtain ⟨⟨hge, hle⟩, hfe⟩ : (0 ≤ ed ∧ ed ≤ (es.length : Int) - 1) ∧ (es.getD ed.toNat ⟨0, 0, 0, ⟨#[]⟩, ⟨#[]⟩⟩).f = q := by simpa [hasEdge] using hin
      obtain ⟨m, rfl⟩ : ∃ m : Nat, ed = (m : Int) := ⟨ed.toNat, by omega⟩
      have hml : m < es.length := by omega
      have hxe : edgeAt es (m : Int) = es[m] := by simp [edgeAt, hml]
      have hxf := HFIT.out es[m] (List.getElem_mem hml)
      obtain ⟨bb, bo, rfl, hbbl, _⟩ := (HK.out _ hBr).2.1.edge m hml
      have hEA : ∀ W, Below wr.heap.size wr W → EdAt W bb (bo + m * 5) es[m] := fun W hb => by
        obtain ⟨bb', bo', e, _, hE⟩ := (HK.out _ (hBr.trans (hb.mono (Nat.le_trans (by omega) hon.size)))).2.1.edge m hml
        injection e with e
        injection e with e1 e2 _
        subst e1 e2
        exact hE
      have hns : nextS nm es (q, N.body) (m : Int) = ((execS nm es[m].k es[m].a es[m].b N.vs N.zs).1, (es[m].t, (execS nm es[m].k es[m].a es[m].b N.vs N.zs).2)) := by
        rw [nextS, hxe]
        rfl
      generalize es[m] = x at *
      obtain ⟨c9, us, ys, hex⟩ : ∃ c us ys, execS nm x.k x.a x.b N.vs N.zs = (c, us, ys) := ⟨_, _, _, rfl⟩
      rw [hex] at hns
      have hS : ∀ W, Below wr.heap.size wr W → ((W.cell? ⟨w.heap.size, 0, none⟩ = some (.slice va nm.length vc) ∧ W.cell? ⟨w.heap.size, 1, none⟩ = some (.int .i64 np) ∧ W.cell? ⟨w.heap.size, 2, none⟩ = some (.slice (some ⟨bb, bo, none⟩) es.length bc)) ∧ (W.cell? ⟨w.heap.size + 1, 0, none⟩ = some (.int .i64 q) ∧ W.cell? ⟨w.heap.size + 1, 1, none⟩ = some (.slice N.a N.vs.length N.ca) ∧ W.cell? ⟨w.heap.size + 1, 2, none⟩ = some (.slice N.b N.zs.length N.cb))) ∧ (W.cell? ⟨bb, bo + m * 5, none⟩ = some (.int .i64 x.f) ∧ W.cell? ⟨bb, bo + m * 5 + 1, none⟩ = some (.int .i64 x.t) ∧ W.cell? ⟨bb, bo + m * 5 + 2, none⟩ = some (.int .i64 x.k) ∧ W.cell? ⟨bb, bo + m * 5 + 3, none⟩ = some (.string x.a) ∧ W.cell? ⟨bb, bo + m * 5 + 4, none⟩ = some (.string x.b)) := fun W hb =>
        have hp := bpr.below hb
        have hq := bsr.below hb
        have hE := hEA W hb
        ⟨⟨⟨hp.c 0 _ rfl, hp.c 1 _ rfl, hp.c 2 _ rfl⟩, hq.c 0 _ rfl, hq.c 1 _ rfl, hq.c 2 _ rfl⟩, hE.f, hE.t, hE.k, hE.a, hE.b⟩
      have hK5 : ∀ W, Below wr.heap.size wr W → Row W W.heap.size va (strVals nm) ∧ HeapAt W N.a N.b N.vs N.zs ∧ HasNamesTable W := fun W hb =>
        have hk := HK.out _ (hBr.trans (hb.mono (Nat.le_trans (by omega) hon.size)))
        ⟨hk.1, (HAT.out wr _ _ _ hpre hL).below hb (Nat.le_refl _), hk.2.2⟩
      have HS5 := Lib.hid hS
      have HK5 := Lib.hid hK5
      have HEX := Lib.hid hex
      have HNS := Lib.hid hns
      have HNX := Lib.hid hnext
      have HLR := Lib.hid hL
      have HON := Lib.hid hon
      have hD : Below wr.heap.size wr wr.drew := Below.drew (Below.refl _ _)
      have hz1r := hon.size
      clear hS hK5 hex hns hnext hEA hxe hfe hin hL hon bpr bsr hrow hBr
      go_wp2
      go_region_held3 (fun W => ((W.cell? ⟨w.heap.size, 0, none⟩ = some (.slice va nm.length vc) ∧ W.cell? ⟨w.heap.size, 1, none⟩ = some (.int .i64 np) ∧ W.cell? ⟨w.heap.size, 2, none⟩ = some (.slice (some ⟨bb, bo, none⟩) es.length bc)) ∧ (W.cell? ⟨w.heap.size + 1, 0, none⟩ = some (.int .i64 q) ∧ W.cell? ⟨w.heap.size + 1, 1, none⟩ = some (.slice N.a N.vs.length N.ca) ∧ W.cell? ⟨w.heap.size + 1, 2, none⟩ = some (.slice N.b N.zs.length N.cb))) ∧ (W.cell? ⟨bb, bo + m * 5, none⟩ = some (.int .i64 x.f) ∧ W.cell? ⟨bb, bo + m * 5 + 1, none⟩ = some (.int .i64 x.t) ∧ W.cell? ⟨bb, bo + m * 5 + 2, none⟩ = some (.int .i64 x.k) ∧ W.cell? ⟨bb, bo + m * 5 + 3, none⟩ = some (.string x.a) ∧ W.cell? ⟨bb, bo + m * 5 + 4, none⟩ = some (.string x.b)))
        (first | exact HS5.out _ (by repeat (first | with_reducible exact Below.refl _ _ | with_reducible assumption | with_reducible refine Below.drew ?_ | with_reducible refine Below.setCell ?_ (by first | exact Nat.le_refl _ | exact z7) _ | with_reducible refine Below.alloc ?_ (by first | exact Nat.le_refl _ | exact z7) _)))
        (first
          | (go_at_call 55; (with_reducible refine (implPerform va vc nm np (some ⟨bb, bo, none⟩) bc es.length q N.a N.b N.ca N.cb N.vs N.zs x _ hnm.1 hnm.2 (HK5.out _ (by repeat (first | with_reducible exact Below.refl _ _ | with_reducible assumption | with_reducible refine Below.drew ?_ | with_reducible refine Below.alloc ?_ (Nat.le_refl _) _))).1 hv4 hz4 (HK5.out _ (by repeat (first | with_reducible exact Below.refl _ _ | with_reducible assumption | with_reducible refine Below.drew ?_ | with_reducible refine Below.alloc ?_ (Nat.le_refl _) _))).2.1 (HK5.out _ (by repeat (first | with_reducible exact Below.refl _ _ | with_reducible assumption | with_reducible refine Below.drew ?_ | with_reducible refine Below.alloc ?_ (Nat.le_refl _) _))).2.2).mono ?_); rw [HEX.out]; rintro e w7 ⟨t7, xa, xca, xb, xcb, ht7, rfl, hin7, hb7⟩; have H7 : Below wr.heap.size wr w7 := Below.trans (by repeat (first | with_reducible exact Below.refl _ _ | with_reducible assumption | with_reducible refine Below.drew ?_ | with_reducible refine Below.alloc ?_ (Nat.le_refl _) _)) (hb7.mono (by first | exact Nat.le_refl _ | (simp; done))); have z7 := H7.size; (try (have bA7 : BoxL w7 wr.heap.size [.int .i64 0, .slice none 0 0, .slice none 0 0] := BoxL.below (BoxL.new wr.drew [.int .i64 0, .slice none 0 0, .slice none 0 0] 34) hb7; have e70 := bA7.c 0 _ rfl; have e71 := bA7.c 1 _ rfl; have e72 := bA7.c 2 _ rfl; have f70 := bA7.f; have l70 := bA7.lt)); skip)
          | fail)
      all_goals
        first
          | (obtain ⟨WA, hWA, bA, hNA, hBA⟩ := after_alloc (w5 := wr) (t7 := t7) 34 hin7 (Nat.le_refl _) H7
             rw [hWA])
          | (obtain ⟨WA, hWA, bA, hNA, hBA⟩ := after_store (w5 := wr) (t7 := t7) bA7 (Nat.le_refl _) (by simp) hin7 H7
             rw [hWA])
        clear hWA hin7 hb7 H7 hD
        try clear e70 e71 e72 f70 l70 bA7
        have hzA := hBA.size
        have HBA := Lib.hid hBA
        have HNA := Lib.hid hNA
        have HLA := Lib.hid (HLR.out.below hBA)
        clear hBA hNA
        by_cases hc9 : c9 = 0
        case' neg =>
          have hcb : (c9 == 0) = false := by simpa using hc9
          have HE := Lib.hid (show ListIs H base L mb nm.length ((ED.take (j + 1)).foldl (stepS nm es (q, N.body)) bs) WA v' ss' by
            rw [HNX.out, stepS, if_neg (by rw [HNS.out]; exact hc9)]
            exact HLA.out)
          clear hc9 bA
          go_wp2
          go_roundw
          case rel => exact ⟨j + 1, v', ss', HJ1.out, by go_num, HE.out, hpre, HON.out.trans (Only.of_below HBA.out), hvv⟩
          case measure => have := HJ1.out; simp [intOf]; omega
        case' pos =>
          subst hc9
          obtain rfl := ht7 rfl
          have hkx : Kx nm.length (x.t, (us, ys)) := kx_heap (exec_heap HEX.out) hxf
          have a0 := bA.c 0 _ rfl
          have a1 := bA.c 1 _ rfl
          have a2 := bA.c 2 _ rfl
          have hfl := fold_len (nm := nm) (es := es) (q, N.body) (ED.take j) bs
          rw [List.length_take] at hfl
          clear bA
          go_wp2_with fail
          refine (implAdd base L mb nm.length _ v' ss' x.t ⟨xa, xca, xb, xcb, us, ys⟩ _ HLA.out hkx (HNA.out.mono (by omega) (Nat.le_refl _) (Nat.le_refl _)) (fun y hy k hk hk2 => by have h1 := (HLR.out.ins.has_lt (List.mem_map_of_mem hy) hk).2; have h2 := (HNA.out.has_lt hk2).1; omega) (fun k hk hk2 => by have h1 := (HLR.out.own.lt k hk).2; have h2 := (HNA.out.has_lt hk2).1; omega) (by omega) (by omega)).mono ?_
          rintro e w9 ⟨rfl, v9, ss9, hL9, hpre9, hon9, hvv9⟩
          have HE := Lib.hid (show ListIs H base L mb nm.length ((ED.take (j + 1)).foldl (stepS nm es (q, N.body)) bs) w9 v9 ss9 by
            rw [HNX.out, stepS, if_pos (by rw [HNS.out]), HNS.out]
            exact hL9)
          have HON9 := Lib.hid hon9
          clear hL9 hon9 a0 a1 a2
          go_wp2
          go_roundw
          case rel =>
            refine ⟨j + 1, v9, ss9, HJ1.out, by go_num, HE.out, ?_, ?_, ?_⟩
            · obtain ⟨r1, rfl⟩ := hpre
              obtain ⟨r2, rfl⟩ := hpre9
              exact ⟨r1 ++ r2, by rw [List.append_assoc]⟩
            · have ht := HON.out.trans (Only.of_below HBA.out)
              have h9 := HON9.out
              refine ⟨h9.os.trans ht.os, h9.tape.trans ht.tape, h9.output.trans ht.output, Nat.le_trans ht.size h9.size, fun k hk hn => (h9.block k (Nat.lt_of_lt_of_le hk ht.size) ?_).trans (ht.block k hk hn)⟩
              rintro (h | h | h)
              · exact hn (.inl h)
              · exact hn (.inr (.inl h))
              · rcases hvv with e | ⟨k', e, hk'⟩
                · exact hn (.inr (.inr (e ▸ h)))
                · rw [e] at h
                  have := Option.some.inj h
                  omega
            · rcases hvv9 with e | ⟨k', e, hk'⟩
              · rw [e]
                exact hvv
              · exact .inr ⟨k', e, by omega⟩
          case measure => have := HJ1.out; simp [intOf]; omega
    · obtain rfl : j = ED.length := by omega
      rw [List.take_length] at hL
      have HE := Lib.hid (show MoreEnd H base L mb nm.length (addAfterS nm es (q, N.body) bs) v ss w (.returned (.tuple #[])) wr from ⟨rfl, v', ss', by rw [HFIN.out]; exact hL, hpre, (Only.of_below HB1.out).trans hon, hvv.imp id fun ⟨k, e, hk⟩ => ⟨k, e, by omega⟩⟩)
      clear hL hon hvv hpre
      go_wp2
      exact bodyPost_ret (v := .tuple #[]) (by simp [results, Tryz.results64, go_sem]) rfl HE.out
end Go.Proofs.YtpmmjaceehlpiaaGreatDoor
/-
  The program's states that can be reached.
-/
namespace Go.Proofs.YtpmmjaceehlpiaaGreatDoor
open Go Go.RowKit Go.ChangeShapes Go.WideShapes Go.ChangeAt Go.Maps

/-- States that a call made, in a row of its own, and whether it found them all. -/
def StatesMade (r : List Sb × Bool) (w : World) (e : Ending) (w' : World) : Prop :=
  ∃ v ss, e = .returned (.tuple #[v, .bool r.2]) ∧ ss.map Sp.body = r.1 ∧ w'.ownsRow w.heap.size 34 3 v ss.length (spVals ss) ∧ HeapsIn w.heap.size w' (ss.map Sp.h) ∧ (∀ k, v.ownBlock = some k → ¬ hasAny (ss.map Sp.h) k) ∧ Below w.heap.size w w'
theorem no_states {w w' : World} (h : Below w.heap.size w w') : StatesMade ([], false) w (.returned (.tuple #[.slice none 0 0, .bool false])) w' :=
  ⟨_, [], rfl, rfl, World.ownsRow_nil _ _ _ _, HeapsIn.nil, fun k hk => (by cases hk), h⟩
theorem startS_next (hs : List (List Int × List Int)) (k : Nat) (h : k < hs.length) : startS (hs.take (k + 1)) = putS (startS (hs.take k)) (0, hs[k]) := by
  unfold startS
  rw [take_next hs k h, List.foldl_append]
  rfl
theorem startS_len : ∀ (hs : List (List Int × List Int)), (startS hs).length ≤ hs.length := by
  have h : ∀ (hs : List (List Int × List Int)) (l : List Sb), (hs.foldl (fun l h => putS l (0, h)) l).length ≤ l.length + hs.length := by
    intro hs
    induction hs with
    | nil => intro l; simp
    | cons x hs ih =>
      intro l
      have h1 := ih (putS l (0, x))
      have h2 := (putS_len l (0, x)).2
      rw [List.foldl_cons, List.length_cons]
      omega
  intro hs
  have := h hs []
  simpa [startS] using this
theorem prog_fits {nm : List ByteArray} {n : Int} {es : List Ed} (h : progB nm n es = true) : es.length ≤ 24 ∧ ∀ x ∈ es, Fits x.t := by
  simp only [progB, Bool.and_eq_true, decide_eq_true_eq, List.all_eq_true] at h
  obtain ⟨⟨⟨_, hn⟩, hl⟩, he⟩ := h
  refine ⟨hl, fun x hx => ?_⟩
  have h1 := he x hx
  simp only [edB, pointB, Bool.and_eq_true, decide_eq_true_eq] at h1
  exact fits_small (by omega) (by omega)
theorem list_new (w : World) (n : Nat) (t : TypeId) : ∃ W2, (w.alloc (.map #[] 0)).alloc (.cells #[.slice none 0 0, .map (some w.heap.size)] t) = W2 ∧ Below w.heap.size w W2 ∧ ListIs Unit (w.heap.size + 2) (w.heap.size + 1) w.heap.size n [] W2 (.slice none 0 0) [] ∧ W2.heap.size = w.heap.size + 2 := by
  have h1 : (w.alloc (.map #[] 0)).heap.size = w.heap.size + 1 := by simp
  have hb := (Below.refl (w.alloc (.map #[] 0)).heap.size (w.alloc (.map #[] 0))).alloc (Nat.le_refl _) (.cells #[.slice none 0 0, .map (some w.heap.size)] t)
  have hx := BoxL.new (w.alloc (.map #[] 0)) [.slice none 0 0, .map (some w.heap.size)] t
  rw [h1] at hx
  refine ⟨_, rfl, ((Below.refl _ _).alloc (Nat.le_refl _) _).alloc (by simp) _, ⟨hx, Met.below (World.ownsMap_made w _ _ _) hb, rfl, World.ownsRow_nil _ _ _ _, HeapsIn.nil, fun k hk => (by cases hk), fun y hy => (by simp at hy), by omega, by omega⟩, by simp⟩
theorem own_most {w : World} {base e size n : Nat} {v : Value} {xs : List Value} (h : w.ownsRow base e size v n xs) : n ≤ maxLen := by
  rcases h.2 with ⟨_, h0⟩ | ⟨g, cap, cur, _, _, _, h1, h2, _⟩
  · omega
  · exact Nat.le_trans h1 h2
set_option maxRecDepth 100000 in
set_option maxHeartbeats 3200000 in
theorem implStatesFrom (va : Option Addr) (vc : Nat) (nm : List ByteArray) (np : Int) (ba : Option Addr) (bc : Nat) (es : List Ed) (ha : Option Addr) (hc : Nat) (hs : List Hp) (w : World)
    (hnm : nm.length ≤ maxLen ∧ (∀ s ∈ nm, s.size ≤ maxLen) ∧ Row w w.heap.size va (strVals nm)) (hes : es.length ≤ 1048576 ∧ Row w w.heap.size ba (edVals es)) (hT : HasNamesTable w) (hhl : hs.length ≤ 1048576) (hh : HeapsAt w ha hs) (hlh : ∀ x ∈ hs, x.vs.length ≤ maxLen ∧ x.zs.length ≤ maxLen) :
    Calls Tryz.prog 12 #[.agg #[.slice va nm.length vc, .int .i64 np, .slice ba es.length bc], .slice ha hs.length hc] w (StatesMade (statesS nm np es (hs.map Hp.body)) w) := by
  obtain ⟨r0, hr0⟩ : ∃ r, statesS nm np es (hs.map Hp.body) = r := ⟨_, rfl⟩
  rw [hr0]
  obtain ⟨pb, hpb⟩ : ∃ pb, progB nm np es = pb := ⟨_, rfl⟩
  have hmm := @run_makeMap Tryz.prog
  have key : ∀ W, Below w.heap.size w W → (Row W W.heap.size va (strVals nm) ∧ Row W W.heap.size ba (edVals es) ∧ HasNamesTable W) ∧ HeapsAt W ha hs := fun W hb => ⟨⟨(hnm.2.2.below hb).grow hb.size, (hes.2.below hb).grow hb.size, hT.keeps hb⟩, hh.below hb⟩
  have HPB := Lib.hid hpb
  have HR := Lib.hid hr0
  have KEY := Lib.hid key
  have HNM := Lib.hid (And.intro hnm.1 hnm.2.1)
  have HLH := Lib.hid hlh
  have hes1 := hes.1
  clear hpb hr0 key hnm hes hT hh hlh
  go_enter Tryz.func12, Tryz.ntmps12
  go_wp2_with fail
  have hb0 := (Below.refl w.heap.size w).alloc (Nat.le_refl _) (.cells #[.slice va nm.length vc, .int .i64 np, .slice ba es.length bc] 27)
  have hbx : BoxL (w.alloc (.cells #[.slice va nm.length vc, .int .i64 np, .slice ba es.length bc] 27)) w.heap.size [.slice va nm.length vc, .int .i64 np, .slice ba es.length bc] := BoxL.new w _ _
  obtain ⟨W0, hW0⟩ : ∃ W, w.alloc (.cells #[.slice va nm.length vc, .int .i64 np, .slice ba es.length bc] 27) = W := ⟨_, rfl⟩
  rw [hW0] at hb0 hbx ⊢
  clear hW0
  refine (implIsProgram va ba vc bc nm np es _ ⟨HNM.out.1, HNM.out.2, (KEY.out _ hb0).1.1⟩ ⟨by unfold maxLen; omega, (KEY.out _ hb0).1.2.1⟩ (KEY.out _ hb0).1.2.2).mono ?_
  rw [HPB.out]
  rintro e w1 ⟨rfl, hb1⟩
  have hB1 := hb0.trans (hb1.mono hb0.size)
  have bx1 := hbx.below hb1
  clear hb0 hbx hb1
  cases pb
  case' false =>
    have hrr : r0 = ([], false) := by rw [← HR.out, statesS, if_neg (by rw [HPB.out]; simp)]
    have HE := Lib.hid (show StatesMade r0 w (.returned (.tuple #[.slice none 0 0, .bool false])) w1 by rw [hrr]; exact no_states hB1)
    clear hrr hB1 bx1
    go_wp2
    exact bodyPost_ret (v := .tuple #[.slice none 0 0, .bool false]) (by simp [results, Tryz.results12, go_sem]) rfl HE.out
  case' true =>
    obtain ⟨hel, hfit⟩ := prog_fits HPB.out
    have hz1 := hB1.size
    have hx1 := bx1.lt
    have HFIT := Lib.hid hfit
    have HB1 := Lib.hid hB1
    have BX1 := Lib.hid bx1
    clear hfit hB1 bx1
    go_wp2
    obtain ⟨W2, hW2, hb2, hl2, hz2⟩ := list_new w1 nm.length 97
    rw [hW2]
    have HB2 := Lib.hid hb2
    have HL2 := Lib.hid hl2
    have hall0 : ((hs.map Hp.body).take 0).all (fun h => heapB (nm.length : Int) h.1 h.2) = true := by simp
    clear hW2 hb2 hl2 hmm
    go_loopw [17] (fun t wr => ∃ (j : Nat) (v : Value) (ss : List Sp), j ≤ hs.length ∧ t = .int .i64 (j : Int) ∧ ListIs Unit (w1.heap.size + 2) (w1.heap.size + 1) w1.heap.size nm.length (startS ((hs.map Hp.body).take j)) wr v ss ∧ ((hs.map Hp.body).take j).all (fun h => heapB (nm.length : Int) h.1 h.2) = true ∧ Below w1.heap.size w1 wr) (fun t _ => hs.length - (intOf t).toNat)
    case atStart => exact ⟨0, _, [], Nat.zero_le _, rfl, HL2.out, hall0, HB2.out⟩
    case round =>
      obtain ⟨j, v, ss, hj, rfl, hL, hall, hbw⟩ := hrel
      have hBw := HB1.out.trans (hbw.mono hz1)
      have bxw := BX1.out.below hbw
      by_cases hlt : j < hs.length
      · have HJ1 := Lib.hid (show j + 1 ≤ hs.length from hlt)
        obtain ⟨hb, ho, rfl, _, h0, h1, hat⟩ := (KEY.out _ hBw).2.item j hlt
        have hlx := HLH.out hs[j] (List.getElem_mem hlt)
        have hlm : j < (hs.map Hp.body).length := by rw [List.length_map]; exact hlt
        have hnx := startS_next (hs.map Hp.body) j hlm
        have hax : ((hs.map Hp.body).take (j + 1)).all (fun h => heapB (nm.length : Int) h.1 h.2) = (((hs.map Hp.body).take j).all (fun h => heapB (nm.length : Int) h.1 h.2) && heapB (nm.length : Int) hs[j].vs hs[j].zs) := by
          rw [take_next _ j hlm, List.all_append, List.all_cons, List.all_nil, Bool.and_true, List.getElem_map]
          rfl
        have hbx : (hs.map Hp.body)[j] = hs[j].body := List.getElem_map _
        rw [hbx] at hnx
        have hmem : hs[j].body ∈ hs.map Hp.body := List.mem_map_of_mem (List.getElem_mem hlt)
        generalize hs[j] = x at *
        have p0 := bxw.c 0 _ rfl
        have HAT := Lib.hid hat
        have HNX := Lib.hid hnx
        have HAX := Lib.hid hax
        have HALL := Lib.hid hall
        have HMEM := Lib.hid hmem
        have HL := Lib.hid hL
        have HBW := Lib.hid hbw
        have HBB := Lib.hid hBw
        have hzw := hbw.size
        have hxw := bxw.lt
        have BXW := Lib.hid bxw
        clear hat hnx hax hall hmem hL hbw hBw hbx hlm bxw
        go_wp2_with fail
        have hb5 := (Below.refl wr.heap.size wr).alloc (Nat.le_refl _) (.cells #[.slice x.a x.vs.length x.ca, .slice x.b x.zs.length x.cb] 30)
        have hbox := BoxL.new wr [.slice x.a x.vs.length x.ca, .slice x.b x.zs.length x.cb] 30
        replace hbox : BoxL (wr.alloc (.cells #[.slice x.a x.vs.length x.ca, .slice x.b x.zs.length x.cb] 30)) wr.heap.size [.slice x.a x.vs.length x.ca, .slice x.b x.zs.length x.cb] := hbox
        obtain ⟨WD, hWD⟩ : ∃ W, wr.alloc (.cells #[.slice x.a x.vs.length x.ca, .slice x.b x.zs.length x.cb] 30) = W := ⟨_, rfl⟩
        rw [hWD] at hb5 hbox ⊢
        clear hWD
        refine (implIsHeap (nm.length : Int) x.a x.b x.ca x.cb x.vs x.zs _ hlx.1 hlx.2 (HAT.out.below hb5)).mono ?_
        rintro e w6 ⟨rfl, hb6⟩
        have hb06 := hb5.trans (hb6.mono hb5.size)
        have hbox6 := hbox.below hb6
        have HB06 := Lib.hid hb06
        have HBOX6 := Lib.hid hbox6
        have hz6 := hb06.size
        clear hb5 hbox hb6 hb06 hbox6
        cases hp : heapB (nm.length : Int) x.vs x.zs
        case' false =>
          have hrr : r0 = ([], false) := by
            rw [← HR.out, statesS, if_neg]
            rintro ⟨_, h2⟩
            have h3 := List.all_eq_true.1 h2 x.body HMEM.out
            simp only [Hp.body] at h3
            rw [hp] at h3
            cases h3
          have HE := Lib.hid (show StatesMade r0 w (.returned (.tuple #[.slice none 0 0, .bool false])) w6 by rw [hrr]; exact no_states (HBB.out.trans (HB06.out.mono HBB.out.size)))
          clear hrr hp
          go_wp2
          exact bodyPost_ret (v := .tuple #[.slice none 0 0, .bool false]) (by simp [results, Tryz.results12, go_sem]) rfl HE.out
        case' true =>
          obtain ⟨⟨_, hx4, _⟩, hx6, _⟩ := heapB_parts hp
          have hkx : Kx nm.length (0, x.body) := kx_heap hp (fits_small (by omega) (by omega))
          have u0 := HBOX6.out.c 0 _ rfl
          have u1 := HBOX6.out.c 1 _ rfl
          go_wp2_with fail
          refine (implCopy x.a x.b x.ca x.cb x.vs x.zs _ (by omega) (by omega) (HAT.out.below HB06.out)).mono ?_
          rintro e w7 ⟨a7, c7, b7, d7, rfl, hin7, hb7⟩
          have hN7 : Hp.In w6.heap.size w7.heap.size w7 ⟨a7, c7, b7, d7, x.vs, x.zs⟩ := hin7
          have HN7 := Lib.hid hN7
          have HB07 := Lib.hid (HB06.out.trans (hb7.mono hz6))
          have hz7 := hb7.size
          have hlb := HL.out.box.lt
          have HL7 := Lib.hid (HL.out.below HB07.out)
          have hsl := startS_len ((hs.map Hp.body).take j)
          rw [List.length_take, List.length_map] at hsl
          clear hin7 hb7 hN7 u0 u1
          go_wp2_with fail
          refine (implAdd (w1.heap.size + 2) (w1.heap.size + 1) w1.heap.size nm.length _ v ss 0 ⟨a7, c7, b7, d7, x.vs, x.zs⟩ _ HL7.out hkx (HN7.out.mono (by omega) (Nat.le_refl _) (Nat.le_refl _)) (fun y hy k hk hk2 => by have h1 := (HL.out.ins.has_lt (List.mem_map_of_mem hy) hk).2; have h2 := (HN7.out.has_lt hk2).1; omega) (fun k hk hk2 => by have h1 := (HL.out.own.lt k hk).2; have h2 := (HN7.out.has_lt hk2).1; omega) (by omega) (by omega)).mono ?_
          rintro e w9 ⟨rfl, v9, ss9, hL9, _, hon9, _⟩
          have HL9 := Lib.hid hL9
          have HB9 := Lib.hid (hon9.below (HBW.out.trans (HB07.out.mono hzw)) (by omega) fun k hk => by
            rcases hk with h | h | h
            · omega
            · omega
            · have := (HL.out.own.lt k h).1
              omega)
          have HA9 := Lib.hid (show ((hs.map Hp.body).take (j + 1)).all (fun h => heapB (nm.length : Int) h.1 h.2) = true by rw [HAX.out, HALL.out, hp]; rfl)
          clear hL9 hon9 hp
          go_wp2
          go_roundw
          case rel => exact ⟨j + 1, v9, ss9, HJ1.out, by go_num, by rw [HNX.out]; exact HL9.out, HA9.out, HB9.out⟩
          case measure => have := HJ1.out; simp [intOf]; omega
      · obtain rfl : j = hs.length := by omega
        have htk : (hs.map Hp.body).take hs.length = hs.map Hp.body := List.take_of_length_le (by simp)
        rw [htk] at hL hall
        have hfin : r0 = if (walkS nm es 201 0 (startS (hs.map Hp.body))).length ≤ 200 then (walkS nm es 201 0 (startS (hs.map Hp.body)), true) else ([], false) := by
          rw [← HR.out, statesS, if_pos ⟨HPB.out, hall⟩]
        have hsl := startS_len (hs.map Hp.body)
        rw [List.length_map] at hsl
        obtain ⟨fin, hwf⟩ : ∃ fin, walkS nm es 201 0 (startS (hs.map Hp.body)) = fin := ⟨_, rfl⟩
        rw [hwf] at hfin
        have hw0 : walkS nm es (201 - 0) 0 (startS (hs.map Hp.body)) = fin := hwf
        have HFIN := Lib.hid hfin
        have HW0 := Lib.hid hw0
        have HL := Lib.hid hL
        have HBW := Lib.hid hbw
        clear hfin hwf hw0 hL hbw htk hBw bxw hall
        go_wp2
        go_loopw [9] (fun t wr => ∃ (k : Nat) (bs : List Sb) (v : Value) (ss : List Sp), k ≤ 201 ∧ t = .int .i64 (k : Int) ∧ walkS nm es (201 - k) k bs = fin ∧ bs.length ≤ 2097152 ∧ ListIs Unit (w1.heap.size + 2) (w1.heap.size + 1) w1.heap.size nm.length bs wr v ss ∧ Below w1.heap.size w1 wr) (fun t _ => 202 - (intOf t).toNat)
        case atStart => exact ⟨0, _, v, ss, Nat.zero_le _, rfl, HW0.out, by omega, HL.out, HBW.out⟩
        case round =>
          clear HL HBW HW0
          obtain ⟨k, bs, v, ss, hk201, rfl, hwk, hbl, hL, hbw⟩ := hrel
          have hssb : ss.length ≤ 2097152 := by rw [hL.len]; exact hbl
          have HLEN := Lib.hid hL.len
          obtain ⟨xa, xc, rfl⟩ := own_shape2 hL.own
          have l0 := hL.box.c 0 _ rfl
          have hBw := HB1.out.trans (hbw.mono hz1)
          have hstop : ¬ (k < bs.length ∧ bs.length ≤ 200) → fin = bs := fun hn => by
            rw [← hwk]
            cases hq : 201 - k with
            | zero => rfl
            | succ f => rw [walkS, if_neg hn]
          have HSTOP := Lib.hid hstop
          have HL := Lib.hid hL
          have HBW := Lib.hid hbw
          have HBB := Lib.hid hBw
          have HWK := Lib.hid hwk
          have hzw := hbw.size
          have hlb := hL.box.lt
          have hno : fin.length ≤ 200 → r0 = (fin, true) := fun h => by rw [HFIN.out, if_pos h]
          have hno2 : ¬ fin.length ≤ 200 → r0 = ([], false) := fun h => by rw [HFIN.out, if_neg h]
          have HNO := Lib.hid hno
          have HNO2 := Lib.hid hno2
          clear hstop hL hbw hBw hwk hno hno2
          have HTL := Lib.hid (fun W (h : Below wr.heap.size wr W) => implTooLong (w1.heap.size + 1) ss.length xc xa (.map (some w1.heap.size)) W (HL.out.below h).box (by omega))
          by_cases h2 : 200 < ss.length
          case' pos =>
            have hfn : ¬ fin.length ≤ 200 := by rw [HSTOP.out (by have := HLEN.out; omega)]; have := HLEN.out; omega
            have HE := Lib.hid (show StatesMade r0 w (.returned (.tuple #[.slice none 0 0, .bool false])) wr by rw [HNO2.out hfn]; exact no_states HBB.out)
            have hd2 : decide (200 < ss.length) = true := decide_eq_true h2
            clear hfn
            by_cases hkl : k < ss.length
            · go_wp2_with fail
              have hq := HTL.out _ (Below.refl _ _)
              rw [hd2] at hq
              refine hq.mono ?_
              rintro e w6 ⟨rfl, rfl⟩
              go_wp2_with fail
              have hq := HTL.out _ (Below.refl _ _)
              rw [hd2] at hq
              refine hq.mono ?_
              rintro e w6 ⟨rfl, rfl⟩
              go_wp2
              exact bodyPost_ret (v := .tuple #[.slice none 0 0, .bool false]) (by simp [results, Tryz.results12, go_sem]) rfl HE.out
            · go_wp2_with fail
              have hq := HTL.out _ (Below.refl _ _)
              rw [hd2] at hq
              refine hq.mono ?_
              rintro e w6 ⟨rfl, rfl⟩
              go_wp2
              exact bodyPost_ret (v := .tuple #[.slice none 0 0, .bool false]) (by simp [results, Tryz.results12, go_sem]) rfl HE.out
          case' neg =>
            have hd2 : decide (200 < ss.length) = false := decide_eq_false h2
            by_cases hkl : k < ss.length
            case' neg =>
              have hfs := HSTOP.out (by have := HLEN.out; omega)
              have HE := Lib.hid (show StatesMade r0 w (.returned (.tuple #[.slice xa ss.length xc, .bool true])) wr by
                rw [HNO.out (by rw [hfs]; have := HLEN.out; omega), hfs]
                exact ⟨_, ss, rfl, HL.out.body, own_base HL.out.own (by omega), HL.out.ins.mono (by omega), HL.out.off, HBB.out⟩)
              clear hfs
              go_wp2_with fail
              have hq := HTL.out _ (Below.refl _ _)
              rw [hd2] at hq
              refine hq.mono ?_
              rintro e w6 ⟨rfl, rfl⟩
              go_wp2
              exact bodyPost_ret (v := .tuple #[.slice xa ss.length xc, .bool true]) (by simp [results, Tryz.results12, go_sem]) rfl HE.out
            case' pos =>
              go_wp2_with fail
              have hq := HTL.out _ (Below.refl _ _)
              rw [hd2] at hq
              refine hq.mono ?_
              rintro e w6 ⟨rfl, rfl⟩
              have hsat : StatesAt wr xa ss := ⟨(OwnIn.of HL.out.own).row, fun x hx => HL.out.ins.at_ (List.mem_map_of_mem hx)⟩
              obtain ⟨g, o, rfl, _, s0, s1, s2, _⟩ := hsat.item k hkl
              have bxr := BX1.out.below HBW.out
              have p0 := bxr.c 0 _ rfl
              have p1 := bxr.c 1 _ rfl
              have p2 := bxr.c 2 _ rfl
              have hfold := fold_len (nm := nm) (es := es) ss[k].body (edgesS es ss[k].body) bs
              have hed : (edgesS es ss[k].body).length ≤ es.length := Nat.le_trans (posFrom_length _ _ _) (by rw [fromsOf_length]; exact Nat.le_refl _)
              have hgd : bs.getD k noSb = ss[k].body := by
                have h1 : (ss.map Sp.body)[k]? = bs[k]? := by rw [HL.out.body]
                rw [List.getD_eq_getElem?_getD, ← h1]
                simp [hkl]
              have hwn : walkS nm es (201 - (k + 1)) (k + 1) (addAfterS nm es ss[k].body bs) = fin := by
                have h1 := HWK.out
                rw [show 201 - k = (201 - (k + 1)) + 1 by have := HLEN.out; omega, walkS, if_pos ⟨by have := HLEN.out; omega, by have := HLEN.out; omega⟩, roundS, hgd] at h1
                exact h1
              have HWN := Lib.hid hwn
              have hal : (addAfterS nm es ss[k].body bs).length ≤ 2097152 := by
                have h1 : (addAfterS nm es ss[k].body bs).length = ((edgesS es ss[k].body).foldl (stepS nm es ss[k].body) bs).length := rfl
                have := HLEN.out
                omega
              have hadd := fun W (hb : Below wr.heap.size wr W) => implAddAfter (H := Unit) (w1.heap.size + 2) (w1.heap.size + 1) w1.heap.size w.heap.size bs _ ss va vc nm np ba bc es k hkl W (HL.out.below hb) hz1 (Nat.le_trans (by omega) hb.size) HNM.out hes1 (fun W' hb' => (KEY.out W' (HBB.out.trans ((hb.mono (Nat.le_trans hz1 hzw)).trans hb'))).1) HFIT.out (by omega)
              have HADD := Lib.hid hadd
              clear hsat bxr hfold hed hgd hwn hadd
              generalize ss[k].p = sp at *
              generalize ss[k].body = sb at *
              generalize ss[k].h = sh at *
              have HAL := Lib.hid hal
              have hk1 : k + 1 ≤ 201 := by omega
              clear hal
              go_wp2
              go_region_law (first | (go_simp; go_at_call 64; (with_reducible refine (HADD.out _ (Below.drew (Below.refl _ _))).mono ?_); rintro e w9 ⟨rfl, v9, ss9, hL9, _, hon9, _⟩))
              all_goals
                have HL9 := Lib.hid hL9
                have HB9 := Lib.hid (hon9.below (Below.drew HBW.out) hzw fun k hk => by
                  rcases hk with h | h | h
                  · omega
                  · omega
                  · have := (HL.out.own.lt k h).1
                    omega)
                clear hL9 hon9 l0 s0 s1 s2 p0 p1 p2
                go_wp2
                go_roundw
                case rel => exact ⟨k + 1, _, v9, ss9, hk1, by go_num, HWN.out, HAL.out, HL9.out, HB9.out⟩
                case measure => simp [intOf]; omega
end Go.Proofs.YtpmmjaceehlpiaaGreatDoor
/-
  The model's states that can be reached.
-/
namespace Go.Proofs.YtpmmjaceehlpiaaGreatDoor
open Go Go.RowKit Go.ChangeShapes Go.WideShapes Go.ChangeAt

theorem BoxL.belowB {W W' : World} {B g : Nat} {xs : List Value} (h : BoxL W g xs) (hb : Below B W W') (hg : g < B) : BoxL W' g xs :=
  ⟨fun i x hx => (hb.cell (p := ⟨g, i, none⟩) hg).trans (h.c i x hx), fun o => (hb.frozen (p := ⟨g, o, none⟩) hg).trans (h.f o), Nat.lt_of_lt_of_le h.lt hb.size⟩
theorem heapy_put {n : Int} {l : List Sb} {x : Sb} (h : Heapy n l) (hx : heapB n x.2.1 x.2.2 = true) : Heapy n (putS l x) := fun y hy => by
  rcases putS_mem hy with hy | rfl
  · exact h y hy
  · exact hx
theorem heapy_step {nm : List ByteArray} {es : List Ed} {l : List Sb} (st : Sb) (e : Int) (h : Heapy (nm.length : Int) l) : Heapy (nm.length : Int) (stepS nm es st l e) := by
  unfold stepS
  split
  · next h0 =>
    refine heapy_put h ?_
    obtain ⟨c, us, ys, hex⟩ : ∃ c us ys, execS nm (edgeAt es e).k (edgeAt es e).a (edgeAt es e).b st.2.1 st.2.2 = (c, us, ys) := ⟨_, _, _, rfl⟩
    unfold nextS at h0 ⊢
    rw [hex] at h0 ⊢
    have hc : c = 0 := h0
    subst hc
    exact exec_heap hex
  · exact h
theorem heapy_fold {nm : List ByteArray} {es : List Ed} (st : Sb) : ∀ (ls : List Int) (l : List Sb), Heapy (nm.length : Int) l → Heapy (nm.length : Int) (ls.foldl (stepS nm es st) l)
  | [], l, h => h
  | e :: ls, l, h => heapy_fold st ls _ (heapy_step st e h)
theorem heapy_lens {n : Int} {l : List Sb} (h : Heapy n l) {x : Sb} (hx : x ∈ l) : x.2.1.length ≤ 4 ∧ x.2.2.length ≤ 6 := by
  have := heapB_parts (h x hx)
  exact ⟨this.1.2.1, this.2.1⟩
section
variable {base kb : Nat} {bs : List Sb} {v : Value} {wr : World} {ss : List Sp}
theorem OutS.len (h : OutS base bs v wr ss kb) : ss.length = bs.length := by rw [← h.body, List.length_map]
theorem OutS.form (h : OutS base bs v wr ss kb) : ∃ c, v = .slice (some ⟨kb, 0, none⟩) ss.length c := own_some h.own h.blk
/-- The k-th state of the list, where it lies. -/
theorem OutS.item {c : Nat} (h : OutS base bs (.slice (some ⟨kb, 0, none⟩) ss.length c) wr ss kb) {k : Nat} (hk : k < bs.length) : ∃ y : Sp, y.body = bs.getD k noSb ∧ y ∈ ss ∧
    (wr.cell? ⟨kb, k * 3, none⟩ = some (.int .i64 y.p) ∧ wr.cell? ⟨kb, k * 3 + 1, none⟩ = some (.slice y.h.a y.h.vs.length y.h.ca) ∧ wr.cell? ⟨kb, k * 3 + 2, none⟩ = some (.slice y.h.b y.h.zs.length y.h.cb)) ∧ y.h.At wr ∧ (y.h.a = none → y.h.ca = 0) ∧ (y.h.b = none → y.h.cb = 0) := by
  have hks : k < ss.length := by rw [h.len]; exact hk
  obtain ⟨b, o, e, _, c0, c1, c2, hat⟩ := h.at_.item k hks
  injection e with e
  injection e with e1 e2 _
  subst e1 e2
  rw [Nat.zero_add] at c0 c1 c2
  have hm : ss[k] ∈ ss := List.getElem_mem hks
  have hin := h.ins.each _ (List.mem_map_of_mem (f := Sp.h) hm)
  refine ⟨ss[k], ?_, hm, ⟨c0, c1, c2⟩, hat, fun e => (own_nils hin.v.2.1 e).2, fun e => (own_nils hin.z.2.1 e).2⟩
  have h1 : (ss.map Sp.body)[k]? = bs[k]? := by rw [h.body]
  rw [List.getD_eq_getElem?_getD, ← h1]
  simp [hks]
theorem OutS.only {S : Nat → Prop} {wr' : World} (h : OutS base bs v wr ss kb) (t : Only S wr wr') (hd : ∀ k, base ≤ k → k < wr.heap.size → ¬ S k) : OutS base bs v wr' ss kb :=
  ⟨h.body, own_onlyA h.own t fun k hk => hd k (h.own.lt k hk).1 (h.own.lt k hk).2, h.ins.same t.size fun x hx k hk => t.block k (h.ins.has_lt hx hk).2 (hd k (h.ins.has_lt hx hk).1 (h.ins.has_lt hx hk).2), h.off, h.blk⟩
end
/-- The model's answer. -/
def StatesGot (r : List Sb × Bool) (w : World) (e : Ending) (w' : World) : Prop :=
  ∃ a c ss, e = .returned (.tuple #[.slice a ss.length c, .bool r.2]) ∧ ss.map Sp.body = r.1 ∧ StatesAt w' a ss ∧ Below w.heap.size w w'
theorem got_none {w w' : World} (g : Nat) (h : Below w.heap.size w w') : StatesGot ([], false) w (.returned (.tuple #[.slice (some ⟨g, 0, none⟩) 0 0, .bool false])) w' :=
  ⟨_, 0, [], rfl, rfl, ⟨fun k u hu => (by simp [fl] at hu), fun x hx => (by simp at hx)⟩, h⟩
theorem after2_alloc {lo : Nat} {w5 w7 : World} {xa xb : Option Addr} {xca xcb : Nat} {us ys : List Int} (t : TypeId) (hin : HeapIn lo w7.heap.size w7 xa xca xb xcb (intVals us) (intVals ys)) (hlo : w5.heap.size ≤ lo) (hB : Below w5.heap.size w5 w7) :
    ∃ WA, w7.alloc (.cells #[.slice xa us.length xca, .slice xb ys.length xcb] t) = WA ∧ BoxL WA w7.heap.size [.slice xa us.length xca, .slice xb ys.length xcb] ∧ Hp.In w5.heap.size WA.heap.size WA ⟨xa, xca, xb, xcb, us, ys⟩ ∧ Below w5.heap.size w5 WA :=
  have ha := (Below.refl w7.heap.size w7).alloc (Nat.le_refl _) (.cells #[.slice xa us.length xca, .slice xb ys.length xcb] t)
  ⟨_, rfl, BoxL.new w7 _ _, (hin.below ha).mono hlo ha.size (Nat.le_refl _), hB.trans (ha.mono hB.size)⟩
theorem after2_store {lo A : Nat} {w5 w7 : World} {xa xb : Option Addr} {xca xcb : Nat} {us ys : List Int} {x0 y0 : Value} (b : BoxL w7 A [x0, y0]) (hA : w5.heap.size ≤ A) (hAl : A < lo) (hin : HeapIn lo w7.heap.size w7 xa xca xb xcb (intVals us) (intVals ys)) (hB : Below w5.heap.size w5 w7) :
    ∃ WA, (w7.setCell ⟨A, 0, none⟩ (.slice xa us.length xca)).setCell ⟨A, 1, none⟩ (.slice xb ys.length xcb) = WA ∧ BoxL WA A [.slice xa us.length xca, .slice xb ys.length xcb] ∧ Hp.In w5.heap.size WA.heap.size WA ⟨xa, xca, xb, xcb, us, ys⟩ ∧ Below w5.heap.size w5 WA := by
  have o : ∀ (W : World) (i : Nat) (u : Value), Only (fun k => k = A) W (W.setCell ⟨A, i, none⟩ u) := fun _ _ _ => Only.set (S := fun k => k = A) rfl
  have oV := (o w7 0 (.slice xa us.length xca)).trans (o _ 1 (.slice xb ys.length xcb))
  have hN : Hp.In lo w7.heap.size w7 ⟨xa, xca, xb, xcb, us, ys⟩ := hin
  exact ⟨_, rfl, (b.set 0 _).set 1 _, (hN.same oV.size fun k hk => oV.block k (hN.has_lt hk).2 (by have := (hN.has_lt hk).1; omega)).mono (by omega) oV.size (Nat.le_refl _), oV.below hB hB.size fun k hk => by omega⟩
set_option maxRecDepth 100000 in
set_option maxHeartbeats 3200000 in
theorem specStatesFrom (va : Option Addr) (vc : Nat) (nm : List ByteArray) (np : Int) (ba : Option Addr) (bc : Nat) (es : List Ed) (ha : Option Addr) (hc : Nat) (hs : List Hp) (w : World)
    (hnm : nm.length ≤ maxLen ∧ (∀ s ∈ nm, s.size ≤ maxLen) ∧ Row w w.heap.size va (strVals nm)) (hnp : -9223372036854775808 ≤ np ∧ np ≤ 9223372036854775807) (hes : es.length ≤ 1048576 ∧ Row w w.heap.size ba (edVals es)) (hhl : hs.length ≤ 1048576) (hh : HeapsAt w ha hs) (hlh : ∀ x ∈ hs, x.vs.length ≤ maxLen ∧ x.zs.length ≤ maxLen) (hnil : ∀ x ∈ hs, (x.a = none → x.ca = 0) ∧ (x.b = none → x.cb = 0)) :
    Calls Tryz.prog 13 #[.agg #[.slice va nm.length vc, .int .i64 np, .slice ba es.length bc], .slice ha hs.length hc] w (StatesGot (statesS nm np es (hs.map Hp.body)) w) := by
  obtain ⟨r0, hr0⟩ : ∃ r, statesS nm np es (hs.map Hp.body) = r := ⟨_, rfl⟩
  rw [hr0]
  obtain ⟨pb, hpb⟩ : ∃ pb, progB nm np es = pb := ⟨_, rfl⟩
  have key : ∀ W, Below w.heap.size w W → (Row W W.heap.size va (strVals nm) ∧ Row W W.heap.size ba (edVals es)) ∧ HeapsAt W ha hs := fun W hb => ⟨⟨(hnm.2.2.below hb).grow hb.size, (hes.2.below hb).grow hb.size⟩, hh.below hb⟩
  have HPB := Lib.hid hpb
  have HR := Lib.hid hr0
  have KEY := Lib.hid key
  have HNM := Lib.hid (And.intro hnm.1 hnm.2.1)
  have HLH := Lib.hid hlh
  have HNIL := Lib.hid hnil
  have hes1 := hes.1
  clear hpb hr0 key hnm hes hh hlh hnil
  have hb0 := ((Below.refl w.heap.size w).alloc (Nat.le_refl _) (.cells #[.slice va nm.length vc, .int .i64 np, .slice ba es.length bc] 27)).alloc (by simp) (.cells #[] 34)
  have hsz0 : ((w.alloc (.cells #[.slice va nm.length vc, .int .i64 np, .slice ba es.length bc] 27)).alloc (.cells #[] 34)).heap.size = w.heap.size + 2 := by simp
  have hbx : BoxL ((w.alloc (.cells #[.slice va nm.length vc, .int .i64 np, .slice ba es.length bc] 27)).alloc (.cells #[] 34)) w.heap.size [.slice va nm.length vc, .int .i64 np, .slice ba es.length bc] := (BoxL.new w [.slice va nm.length vc, .int .i64 np, .slice ba es.length bc] 27).below ((Below.refl _ _).alloc (Nat.le_refl _) _)
  have hO0 : OutS (w.heap.size + 1) [] (.slice (some ⟨w.heap.size + 1, 0, none⟩) 0 0) ((w.alloc (.cells #[.slice va nm.length vc, .int .i64 np, .slice ba es.length bc] 27)).alloc (.cells #[] 34)) [] (w.heap.size + 1) := by
    have h1 := World.ownsRow_made (e := 34) (size := 3) (base := w.heap.size + 1) (w.alloc (.cells #[.slice va nm.length vc, .int .i64 np, .slice ba es.length bc] 27)) #[] 0 (by simp) (Nat.zero_le _) rfl
    rw [show (w.alloc (.cells #[.slice va nm.length vc, .int .i64 np, .slice ba es.length bc] 27)).heap.size = w.heap.size + 1 by simp] at h1
    exact ⟨rfl, h1, HeapsIn.nil, fun ⟨x, hx, _⟩ => (by simp at hx), rfl⟩
  go_enter Tryz.func13, Tryz.ntmps13
  go_wp2_with fail
  obtain ⟨W0, hW0⟩ : ∃ W, (w.alloc (.cells #[.slice va nm.length vc, .int .i64 np, .slice ba es.length bc] 27)).alloc (.cells #[] 34) = W := ⟨_, rfl⟩
  rw [hW0] at hb0 hbx hO0 hsz0 ⊢
  clear hW0
  refine (specIsProgram va ba vc bc nm np es _ ⟨HNM.out.1, HNM.out.2, (KEY.out _ hb0).1.1⟩ hnp ⟨by unfold maxLen; omega, (KEY.out _ hb0).1.2⟩).mono ?_
  rw [HPB.out]
  rintro e w1 ⟨rfl, hb1⟩
  have hB1 := hb0.trans (hb1.mono hb0.size)
  have bx1 := hbx.below hb1
  have O1 := hO0.below hb1
  have hz1 := hb1.size
  clear hb0 hbx hb1 hO0
  cases pb
  case' false =>
    have hrr : r0 = ([], false) := by rw [← HR.out, statesS, if_neg (by rw [HPB.out]; simp)]
    have HE := Lib.hid (show StatesGot r0 w (.returned (.tuple #[.slice (some ⟨w.heap.size + 1, 0, none⟩) 0 0, .bool false])) w1 by rw [hrr]; exact got_none _ hB1)
    clear hrr hB1 bx1 O1
    go_wp2
    exact bodyPost_ret (v := .tuple #[.slice (some ⟨w.heap.size + 1, 0, none⟩) 0 0, .bool false]) (by simp [results, Tryz.results13, go_sem]) rfl HE.out
  case' true =>
    obtain ⟨hel, _⟩ := prog_fits HPB.out
    have HB1 := Lib.hid hB1
    have BX1 := Lib.hid bx1
    have HO1 := Lib.hid O1
    have hall0 : ((hs.map Hp.body).take 0).all (fun h => heapB (nm.length : Int) h.1 h.2) = true := by simp
    have hheapy0 : Heapy (nm.length : Int) (startS ((hs.map Hp.body).take 0)) := fun x hx => by simp [startS] at hx
    clear hB1 bx1 O1
    go_wp2
    go_loopw [6, 7] (fun v t wr => ∃ (j kb : Nat) (ss : List Sp), j ≤ hs.length ∧ t = .int .i64 (j : Int) ∧ OutS (w.heap.size + 1) (startS ((hs.map Hp.body).take j)) v wr ss kb ∧ ((hs.map Hp.body).take j).all (fun h => heapB (nm.length : Int) h.1 h.2) = true ∧ Heapy (nm.length : Int) (startS ((hs.map Hp.body).take j)) ∧ Below (w.heap.size + 1) w1 wr) (fun _ t _ => hs.length - (intOf t).toNat)
    case atStart => exact ⟨0, _, [], Nat.zero_le _, rfl, HO1.out, hall0, hheapy0, Below.refl _ _⟩
    case round =>
      obtain ⟨j, kb, ss, hj, rfl, hO, hall, hhp, hbw⟩ := hrel
      obtain ⟨vc', rfl⟩ := hO.form
      have hBw := HB1.out.trans (hbw.mono (Nat.le_succ _))
      have bxw := BX1.out.belowB hbw (Nat.lt_succ_self _)
      by_cases hlt : j < hs.length
      · have HJ1 := Lib.hid (show j + 1 ≤ hs.length from hlt)
        have hitem := fun W (hb : Below wr.heap.size wr W) => (KEY.out W (hBw.trans (hb.mono hBw.size))).2.item j hlt
        obtain ⟨hb, ho, rfl, hbl, h0, h1, hat⟩ := hitem _ (Below.refl _ _)
        have hlx := HLH.out hs[j] (List.getElem_mem hlt)
        have hnx0 := HNIL.out hs[j] (List.getElem_mem hlt)
        have hlm : j < (hs.map Hp.body).length := by rw [List.length_map]; exact hlt
        have hnx := startS_next (hs.map Hp.body) j hlm
        have hax : ((hs.map Hp.body).take (j + 1)).all (fun h => heapB (nm.length : Int) h.1 h.2) = (((hs.map Hp.body).take j).all (fun h => heapB (nm.length : Int) h.1 h.2) && heapB (nm.length : Int) hs[j].vs hs[j].zs) := by
          rw [take_next _ j hlm, List.all_append, List.all_cons, List.all_nil, Bool.and_true, List.getElem_map]
          rfl
        have hbx : (hs.map Hp.body)[j] = hs[j].body := List.getElem_map _
        rw [hbx] at hnx
        have hmem : hs[j].body ∈ hs.map Hp.body := List.mem_map_of_mem (List.getElem_mem hlt)
        have hS : ∀ W, Below wr.heap.size wr W → W.cell? ⟨w.heap.size, 0, none⟩ = some (.slice va nm.length vc) ∧ W.cell? ⟨hb, ho + j * 2, none⟩ = some (.slice hs[j].a hs[j].vs.length hs[j].ca) ∧ W.cell? ⟨hb, ho + j * 2 + 1, none⟩ = some (.slice hs[j].b hs[j].zs.length hs[j].cb) := fun W hw =>
          ⟨(bxw.below hw).c 0 _ rfl, (hw.cell (p := ⟨hb, ho + j * 2, none⟩) hbl).trans h0, (hw.cell (p := ⟨hb, ho + j * 2 + 1, none⟩) hbl).trans h1⟩
        generalize hs[j] = x at *
        have hat' : HeapAt wr x.a x.b x.vs x.zs := hat
        have HAT := Lib.hid hat'
        have HS := Lib.hid hS
        have HNX := Lib.hid hnx
        have HAX := Lib.hid hax
        have HALL := Lib.hid hall
        have HHP := Lib.hid hhp
        have HMEM := Lib.hid hmem
        have HO := Lib.hid hO
        have HBW := Lib.hid hbw
        have HBB := Lib.hid hBw
        have hzw := hbw.size
        have hsl := startS_len ((hs.map Hp.body).take j)
        rw [List.length_take, List.length_map] at hsl
        have hD : Below wr.heap.size wr wr.drew := Below.drew (Below.refl _ _)
        clear hat hat' hnx hax hall hmem hO hbw hBw hbx hlm bxw hS hitem h0 h1 hhp
        go_wp2
        go_region_held3 (fun W => W.cell? ⟨w.heap.size, 0, none⟩ = some (.slice va nm.length vc) ∧ W.cell? ⟨hb, ho + j * 2, none⟩ = some (.slice x.a x.vs.length x.ca) ∧ W.cell? ⟨hb, ho + j * 2 + 1, none⟩ = some (.slice x.b x.zs.length x.cb))
          (first | exact HS.out _ hD | exact HS.out _ (Below.drew hD) | exact HS.out _ H6)
          (first
            | (go_at_call 21; (with_reducible refine (specIsHeap (nm.length : Int) x.a x.b x.ca x.cb x.vs x.zs _ hlx.1 hlx.2 (HAT.out.below hD (Nat.le_refl _))).mono ?_); rintro e w6 ⟨rfl, hb6⟩; have H6 := hD.trans (hb6.mono hD.size))
            | fail)
        clear hb6
        have hz6 := H6.size
        have HB06 := Lib.hid H6
        clear H6 hD
        cases hp : heapB (nm.length : Int) x.vs x.zs
        case' false =>
          have hrr : r0 = ([], false) := by
            rw [← HR.out, statesS, if_neg]
            rintro ⟨_, h2⟩
            have h3 := List.all_eq_true.1 h2 x.body HMEM.out
            simp only [Hp.body] at h3
            rw [hp] at h3
            cases h3
          have hb9 := HBB.out.trans (HB06.out.mono HBB.out.size)
          have HE := Lib.hid (show StatesGot r0 w (.returned (.tuple #[.slice (some ⟨w6.heap.size, 0, none⟩) 0 0, .bool false])) (w6.alloc (.cells #[] 34)) by rw [hrr]; exact got_none _ (hb9.trans (Below.mono ((Below.refl _ _).alloc (Nat.le_refl _) _) hb9.size)))
          clear hrr hp hb9
          go_wp2
          exact bodyPost_ret (v := .tuple #[.slice (some ⟨w6.heap.size, 0, none⟩) 0 0, .bool false]) (by simp [results, Tryz.results13, go_sem]) rfl HE.out
        case' true =>
          obtain ⟨⟨_, hx4, _⟩, hx6, _⟩ := heapB_parts hp
          obtain ⟨_, s0, s1⟩ := HS.out _ HB06.out
          have hsl2 : ss.length ≤ 16777216 := by have := HO.out.len; omega
          go_wp2_with fail
          refine (specPut (w.heap.size + 1) _ _ ss kb 0 x.a x.b x.ca x.cb x.vs x.zs _ (HO.out.below HB06.out) (by omega) hsl2 (fun y hy => by have := heapy_lens HHP.out hy; unfold maxLen; omega) (HAT.out.below HB06.out (Nat.le_refl _)) hnx0.1 hnx0.2 (by omega) (by omega)).mono ?_
          rintro e w9 ⟨v9, ss9, kb9, rfl, hO9, _, hon9⟩
          have hkb := (HO.out.own.lt kb rfl).1
          have HB9 := Lib.hid (hon9.below (HBW.out.trans (HB06.out.mono (by omega))) (by omega) fun k hk => by omega)
          have HA9 := Lib.hid (show ((hs.map Hp.body).take (j + 1)).all (fun h => heapB (nm.length : Int) h.1 h.2) = true by rw [HAX.out, HALL.out, hp]; rfl)
          have HH9 := Lib.hid (heapy_put HHP.out (x := (0, (x.vs, x.zs))) hp)
          have HO9 := Lib.hid hO9
          clear hO9 hon9 hp s0 s1
          go_wp2
          go_roundw
          case rel => exact ⟨j + 1, kb9, ss9, HJ1.out, by go_num, by rw [HNX.out]; exact HO9.out, HA9.out, by rw [HNX.out]; exact HH9.out, HB9.out⟩
          case measure => have := HJ1.out; simp [intOf]; omega
      · obtain rfl : j = hs.length := by omega
        have htk : (hs.map Hp.body).take hs.length = hs.map Hp.body := List.take_of_length_le (by simp)
        rw [htk] at hO hall hhp
        have hfin : r0 = if (walkS nm es 201 0 (startS (hs.map Hp.body))).length ≤ 200 then (walkS nm es 201 0 (startS (hs.map Hp.body)), true) else ([], false) := by
          rw [← HR.out, statesS, if_pos ⟨HPB.out, hall⟩]
        have hsl := startS_len (hs.map Hp.body)
        rw [List.length_map] at hsl
        obtain ⟨fin, hwf⟩ : ∃ fin, walkS nm es 201 0 (startS (hs.map Hp.body)) = fin := ⟨_, rfl⟩
        rw [hwf] at hfin
        have hw0 : walkS nm es (201 - 0) 0 (startS (hs.map Hp.body)) = fin := hwf
        have HFIN := Lib.hid hfin
        have HW0 := Lib.hid hw0
        have HO := Lib.hid hO
        have HBW := Lib.hid hbw
        have HHP := Lib.hid hhp
        clear hfin hwf hw0 hO hbw htk hBw bxw hall hhp
        go_wp2
        go_loopw [6, 8] (fun v t wr => ∃ (k kb : Nat) (bs : List Sb) (ss : List Sp), k ≤ 201 ∧ t = .int .i64 (k : Int) ∧ walkS nm es (201 - k) k bs = fin ∧ bs.length ≤ 2097152 ∧ OutS (w.heap.size + 1) bs v wr ss kb ∧ Heapy (nm.length : Int) bs ∧ Below (w.heap.size + 1) w1 wr) (fun _ t _ => 202 - (intOf t).toNat)
        case atStart => exact ⟨0, kb, _, ss, Nat.zero_le _, rfl, HW0.out, by omega, HO.out, HHP.out, HBW.out⟩
        case round =>
          clear HO HBW HW0 HHP
          obtain ⟨k, kb, bs, ss, hk201, rfl, hwk, hbl, hO, hhp, hbw⟩ := hrel
          have hssb : ss.length ≤ 2097152 := by rw [hO.len]; exact hbl
          have HLEN := Lib.hid hO.len
          obtain ⟨xc, rfl⟩ := hO.form
          have hBw := HB1.out.trans (hbw.mono (Nat.le_succ _))
          have hstop : ¬ (k < bs.length ∧ bs.length ≤ 200) → fin = bs := fun hn => by
            rw [← hwk]
            cases hq : 201 - k with
            | zero => rfl
            | succ f => rw [walkS, if_neg hn]
          have HSTOP := Lib.hid hstop
          have HO := Lib.hid hO
          have HBW := Lib.hid hbw
          have HBB := Lib.hid hBw
          have HWK := Lib.hid hwk
          have HHP := Lib.hid hhp
          have hzw := hbw.size
          have hno : fin.length ≤ 200 → r0 = (fin, true) := fun h => by rw [HFIN.out, if_pos h]
          have hno2 : ¬ fin.length ≤ 200 → r0 = ([], false) := fun h => by rw [HFIN.out, if_neg h]
          have HNO := Lib.hid hno
          have HNO2 := Lib.hid hno2
          clear hstop hO hbw hBw hwk hno hno2 hhp
          by_cases h2 : 200 < ss.length
          case' pos =>
            have hfn : ¬ fin.length ≤ 200 := by rw [HSTOP.out (by have := HLEN.out; omega)]; have := HLEN.out; omega
            have HE := Lib.hid (show StatesGot r0 w (.returned (.tuple #[.slice (some ⟨wr.heap.size, 0, none⟩) 0 0, .bool false])) (wr.alloc (.cells #[] 34)) by rw [HNO2.out hfn]; exact got_none _ (HBB.out.trans (Below.mono ((Below.refl _ _).alloc (Nat.le_refl _) _) HBB.out.size)))
            have h2i : ¬ ((ss.length : Int) ≤ 200) := by omega
            have h2j : (200 : Int) < (ss.length : Int) := by omega
            clear hfn
            by_cases hkl : k < ss.length
            all_goals
              go_wp2
              exact bodyPost_ret (v := .tuple #[.slice (some ⟨wr.heap.size, 0, none⟩) 0 0, .bool false]) (by simp [results, Tryz.results13, go_sem]) rfl HE.out
          case' neg =>
            have h2i : (ss.length : Int) ≤ 200 := by omega
            have h2j : ¬ ((200 : Int) < (ss.length : Int)) := by omega
            by_cases hkl : k < ss.length
            case' neg =>
              have hfs := HSTOP.out (by have := HLEN.out; omega)
              have HE := Lib.hid (show StatesGot r0 w (.returned (.tuple #[.slice (some ⟨kb, 0, none⟩) ss.length xc, .bool true])) wr by
                rw [HNO.out (by rw [hfs]; have := HLEN.out; omega), hfs]
                exact ⟨_, xc, ss, rfl, HO.out.body, HO.out.at_, HBB.out⟩)
              clear hfs
              go_wp2
              exact bodyPost_ret (v := .tuple #[.slice (some ⟨kb, 0, none⟩) ss.length xc, .bool true]) (by simp [results, Tryz.results13, go_sem]) rfl HE.out
            case' pos =>
              have hkb := (HO.out.own.lt kb rfl)
              have hkbs : k < bs.length := by have := HLEN.out; omega
              obtain ⟨st, hst⟩ : ∃ st, bs.getD k noSb = st := ⟨_, rfl⟩
              obtain ⟨y, hyb, hym, ⟨c0, _, _⟩, _, _, _⟩ := HO.out.item hkbs
              rw [hst] at hyb
              have hq : y.p = st.1 := congrArg Prod.fst hyb
              rw [hq] at c0
              have bxr := BX1.out.belowB HBW.out (Nat.lt_succ_self _)
              have hS : ∀ W, Below wr.heap.size wr W → (W.cell? ⟨w.heap.size, 0, none⟩ = some (.slice va nm.length vc) ∧ W.cell? ⟨w.heap.size, 1, none⟩ = some (.int .i64 np) ∧ W.cell? ⟨w.heap.size, 2, none⟩ = some (.slice ba es.length bc)) ∧ W.cell? ⟨kb, k * 3, none⟩ = some (.int .i64 st.1) := fun W hb =>
                have hp := bxr.below hb
                ⟨⟨hp.c 0 _ rfl, hp.c 1 _ rfl, hp.c 2 _ rfl⟩, (hb.cell (p := ⟨kb, k * 3, none⟩) hkb.2).trans c0⟩
              have HS := Lib.hid hS
              have hD : Below wr.heap.size wr wr.drew := Below.drew (Below.refl _ _)
              have hwn : walkS nm es (201 - (k + 1)) (k + 1) (addAfterS nm es st bs) = fin := by
                have h1 := HWK.out
                rw [show 201 - k = (201 - (k + 1)) + 1 by omega, walkS, if_pos ⟨hkbs, by have := HLEN.out; omega⟩, roundS, hst] at h1
                exact h1
              have HWN := Lib.hid hwn
              have hfold := fold_len (nm := nm) (es := es) st (edgesS es st) bs
              have hed : (edgesS es st).length ≤ es.length := Nat.le_trans (posFrom_length _ _ _) (by rw [fromsOf_length]; exact Nat.le_refl _)
              have hal : (addAfterS nm es st bs).length ≤ 2097152 := by
                have h1 : (addAfterS nm es st bs).length = ((edgesS es st).foldl (stepS nm es st) bs).length := rfl
                have := HLEN.out
                omega
              have HAL := Lib.hid hal
              have HHA := Lib.hid (show Heapy (nm.length : Int) (addAfterS nm es st bs) from heapy_fold st _ _ HHP.out)
              have HST := Lib.hid hst
              have hk1 : k + 1 ≤ 201 := by omega
              clear hS hyb hym hq c0 bxr hwn hfold hal
              go_wp2
              go_region_held3 (fun W => (W.cell? ⟨w.heap.size, 0, none⟩ = some (.slice va nm.length vc) ∧ W.cell? ⟨w.heap.size, 1, none⟩ = some (.int .i64 np) ∧ W.cell? ⟨w.heap.size, 2, none⟩ = some (.slice ba es.length bc)) ∧ W.cell? ⟨kb, k * 3, none⟩ = some (.int .i64 st.1))
                (first | exact HS.out _ hD | exact HS.out _ (Below.drew hD) | exact HS.out _ H5)
                (first
                  | (go_at_call 47; (with_reducible refine (specEdgesFrom va ba nm.length vc bc es np st.1 _ hes1 (KEY.out _ (HBB.out.trans (hD.mono HBB.out.size))).1.2).mono ?_); rintro e w5 ⟨ag, cg, rfl, hcg, hg, hb5⟩; have H5 := hD.trans (hb5.mono hD.size))
                  | fail)
              rw [intVals_length] at *
              have hz5 := H5.size
              have hpl : (posFrom st.1 0 (fromsOf es)).length ≤ es.length := hed
              have hEDm : ∀ m ∈ posFrom st.1 0 (fromsOf es), hasEdge es st.1 m = true := fun m hm => edges_has (st := st) hm
              have hgb : ∀ k, (Value.slice ag (posFrom st.1 0 (fromsOf es)).length cg).ownBlock = some k → wr.heap.size ≤ k := fun k hk => (hg.lt k hk).1
              obtain ⟨ED, hEDD⟩ : ∃ ED, posFrom st.1 0 (fromsOf es) = ED := ⟨_, rfl⟩
              have hfo : addAfterS nm es st bs = ED.foldl (stepS nm es st) bs := by rw [← hEDD]; rfl
              rw [hEDD] at hEDm hpl hgb hg
              rw [hEDD]
              have HFO := Lib.hid hfo
              have HEDM := Lib.hid hEDm
              have HG := Lib.hid hg
              have HGB := Lib.hid hgb
              have HO5 := Lib.hid (HO.out.below H5)
              have HB5 := Lib.hid (HBW.out.trans (H5.mono (by omega)))
              have HH5 := Lib.hid H5
              have hkw5 : kb < w5.heap.size := by omega
              clear hEDD hfo hEDm hg hgb H5 hb5 hD HS hed
              go_wp2
              go_loopw [6, 10] (fun v t wq => ∃ (j kb' : Nat) (ss' : List Sp), j ≤ ED.length ∧ t = .int .i64 (j : Int) ∧ OutS (w.heap.size + 1) ((ED.take j).foldl (stepS nm es st) bs) v wq ss' kb' ∧ (kb' = kb ∨ w5.heap.size ≤ kb') ∧ Only (fun i => i = kb) w5 wq) (fun _ t _ => ED.length - (intOf t).toNat)
              case atStart => exact ⟨0, kb, ss, Nat.zero_le _, rfl, HO5.out, .inl rfl, Only.refl⟩
              case round =>
                obtain ⟨j, kb', ss', hj, rfl, hO, hkk, hon⟩ := hrel
                obtain ⟨xc', rfl⟩ := hO.form
                obtain ⟨W1, rfl⟩ : ∃ W1, W1 = wr := ⟨_, rfl⟩
                by_cases hlj : j < ED.length
                case' neg =>
                  obtain rfl : j = ED.length := by omega
                  rw [List.take_length, ← HFO.out] at hO
                  have HN := Lib.hid hO
                  have HBN := Lib.hid (hon.below HB5.out (by omega) (fun i hi => by omega))
                  clear hO hon
                  go_wp2
                  go_roundw
                  case rel => exact ⟨k + 1, kb', _, ss', hk1, by go_num, HWN.out, HAL.out, HN.out, HHA.out, HBN.out⟩
                  case measure => simp [intOf]; omega
                case' pos =>
                  have HJ1 := Lib.hid (show j + 1 ≤ ED.length from hlj)
                  have hBi := hon.below HB5.out (by omega) (fun i hi => by omega)
                  have hBw := HB1.out.trans (hBi.mono (Nat.le_succ _))
                  have bxi := BX1.out.belowB hBi (Nat.lt_succ_self _)
                  have hrow : Row W1 W1.heap.size ag (intVals ED) := Row.owned (own_onlyA HG.out hon fun i hi => by have := HGB.out i hi; omega)
                  obtain ⟨eb, eo, rfl, hebl, hec⟩ := hrow j (.int .i64 ED[j]) (intVals_at ED j hlj)
                  have hnext := fold_next (nm := nm) (es := es) st ED bs j hlj
                  have hin := HEDM.out ED[j] (List.getElem_mem hlj)
                  generalize ED[j] = ed at *
                  obtain ⟨⟨hge, hle⟩, hfe⟩ : (0 ≤ ed ∧ ed ≤ (es.length : Int) - 1) ∧ (es.getD ed.toNat ⟨0, 0, 0, ⟨#[]⟩, ⟨#[]⟩⟩).f = st.1 := by simpa [hasEdge] using hin
                  obtain ⟨m, rfl⟩ : ∃ m : Nat, ed = (m : Int) := ⟨ed.toNat, by omega⟩
                  have hml : m < es.length := by omega
                  have hxe : edgeAt es (m : Int) = es[m] := by simp [edgeAt, hml]
                  obtain ⟨bb, bo, rfl, hbbl, hEA⟩ := (KEY.out _ hBw).1.2.edge m hml
                  have hns : nextS nm es st (m : Int) = ((execS nm es[m].k es[m].a es[m].b st.2.1 st.2.2).1, (es[m].t, (execS nm es[m].k es[m].a es[m].b st.2.1 st.2.2).2)) := by
                    rw [nextS, hxe]
                  generalize es[m] = x at *
                  obtain ⟨c9, us, ys, hex⟩ : ∃ c us ys, execS nm x.k x.a x.b st.2.1 st.2.2 = (c, us, ys) := ⟨_, _, _, rfl⟩
                  rw [hex] at hns
                  obtain ⟨rr, hrr⟩ := fold_pre (ss := nm) (es := es) st (ED.take j) bs
                  have hkj : k < ((ED.take j).foldl (stepS nm es st) bs).length := by rw [hrr, List.length_append]; omega
                  have hgj : ((ED.take j).foldl (stepS nm es st) bs).getD k noSb = st := by rw [hrr, getD_pre hkbs]; exact HST.out
                  obtain ⟨⟨yp, ya, yca, yb, ycb, yvs, yzs⟩, hyb, _, ⟨d0, d1, d2⟩, hyat, hna, hnb⟩ := hO.item hkj
                  rw [hgj] at hyb
                  obtain rfl : yp = st.1 := congrArg Prod.fst hyb
                  obtain rfl : yvs = st.2.1 := congrArg (fun z => z.2.1) hyb
                  obtain rfl : yzs = st.2.2 := congrArg (fun z => z.2.2) hyb
                  have hstm : st ∈ bs := by
                    have h1 := HST.out
                    rw [List.getD_eq_getElem?_getD, List.getElem?_eq_getElem hkbs] at h1
                    have h2 : bs[k] = st := h1
                    rw [← h2]
                    exact List.getElem_mem _
                  have hlst := heapy_lens HHP.out hstm
                  have p2 := bxi.c 2 _ rfl
                  have e0 := hEA.f
                  have e1 := hEA.t
                  have e2 := hEA.k
                  have e3 := hEA.a
                  have e4 := hEA.b
                  have hxl := bxi.lt
                  have n1 : ¬ w.heap.size = W1.heap.size := by omega
                  have n2 : ¬ eb = W1.heap.size := by omega
                  have n3 : ¬ bb = W1.heap.size := by omega
                  have hji : (j : Int) < (ED.length : Int) := by omega
                  have hmi : (m : Int) < (es.length : Int) := by omega
                  have BXI := Lib.hid bxi
                  have HEX := Lib.hid hex
                  have HNS := Lib.hid hns
                  have HNX := Lib.hid hnext
                  have HOI := Lib.hid hO
                  have HON := Lib.hid hon
                  have HBI := Lib.hid hBi
                  have HBWI := Lib.hid hBw
                  have HYAT := Lib.hid (show HeapAt W1 ya yb st.2.1 st.2.2 from hyat)
                  have HD12 := Lib.hid (And.intro d1 d2)
                  have hz1w := hon.size
                  have hkbl := (hO.own.lt kb' rfl)
                  have hlen2 := fold_len (nm := nm) (es := es) st (ED.take j) bs
                  rw [List.length_take] at hlen2
                  have hks2 : k < ss'.length := by rw [hO.len]; exact hkj
                  have hks3 : (k : Int) < (ss'.length : Int) := by omega
                  have hyl := hO.len
                  have HYL := Lib.hid hyl
                  have hHj := heapy_fold (nm := nm) (es := es) st (ED.take j) bs HHP.out
                  have HHJ := Lib.hid hHj
                  clear hBi hBw bxi hrow hnext hin hfe hxe hns hex hrr hkj hgj hyb hO hon d0 d1 d2 hyat hEA hstm hyl hHj
                  go_wp2
                  go_region
                  have hb6 := Below.drew ((Below.refl W1.heap.size W1).alloc (Nat.le_refl _) (.cells #[.int .i64 x.f, .int .i64 x.t, .int .i64 x.k, .string x.a, .string x.b] 85))
                  have bX : BoxL (W1.alloc (.cells #[.int .i64 x.f, .int .i64 x.t, .int .i64 x.k, .string x.a, .string x.b] 85)).drew W1.heap.size [.int .i64 x.f, .int .i64 x.t, .int .i64 x.k, .string x.a, .string x.b] := (BoxL.new W1 [.int .i64 x.f, .int .i64 x.t, .int .i64 x.k, .string x.a, .string x.b] 85).below (Below.drew (Below.refl _ _))
                  obtain ⟨W6, hW6⟩ : ∃ W, (W1.alloc (.cells #[.int .i64 x.f, .int .i64 x.t, .int .i64 x.k, .string x.a, .string x.b] 85)).drew = W := ⟨_, rfl⟩
                  rw [hW6] at hb6 bX ⊢
                  have hz6 := hb6.size
                  have hS : ∀ W, Below W6.heap.size W6 W → (W.cell? ⟨w.heap.size, 0, none⟩ = some (.slice va nm.length vc) ∧ (W.cell? ⟨kb', k * 3 + 1, none⟩ = some (.slice ya st.2.1.length yca) ∧ W.cell? ⟨kb', k * 3 + 2, none⟩ = some (.slice yb st.2.2.length ycb))) ∧ (W.cell? ⟨W1.heap.size, 2, none⟩ = some (.int .i64 x.k) ∧ W.cell? ⟨W1.heap.size, 3, none⟩ = some (.string x.a) ∧ W.cell? ⟨W1.heap.size, 4, none⟩ = some (.string x.b)) := fun W hb =>
                    have hbW := hb6.trans (hb.mono hz6)
                    have hX := bX.below hb
                    ⟨⟨(BXI.out.below hbW).c 0 _ rfl, (hbW.cell (p := ⟨kb', k * 3 + 1, none⟩) hkbl.2).trans HD12.out.1, (hbW.cell (p := ⟨kb', k * 3 + 2, none⟩) hkbl.2).trans HD12.out.2⟩, hX.c 2 _ rfl, hX.c 3 _ rfl, hX.c 4 _ rfl⟩
                  have hK6 : ∀ W, Below W6.heap.size W6 W → Row W W.heap.size va (strVals nm) ∧ HeapAt W ya yb st.2.1 st.2.2 := fun W hb =>
                    have hbW := hb6.trans (hb.mono hz6)
                    ⟨(KEY.out _ (HBWI.out.trans (hbW.mono HBWI.out.size))).1.1, HYAT.out.below hbW (Nat.le_refl _)⟩
                  have HS6 := Lib.hid hS
                  have HK6 := Lib.hid hK6
                  have HB6 := Lib.hid hb6
                  have HBX6 := Lib.hid bX
                  have hD : Below W6.heap.size W6 W6.drew := Below.drew (Below.refl _ _)
                  have hst4 : st.2.1.length ≤ maxLen := by unfold maxLen; omega
                  have hst6 : st.2.2.length ≤ maxLen := by unfold maxLen; omega
                  clear hW6 hb6 bX hS hK6 p2 e0 e1 e2 e3 e4 hec
                  go_wp2
                  go_region_held3 (fun W => (W.cell? ⟨w.heap.size, 0, none⟩ = some (.slice va nm.length vc) ∧ (W.cell? ⟨kb', k * 3 + 1, none⟩ = some (.slice ya st.2.1.length yca) ∧ W.cell? ⟨kb', k * 3 + 2, none⟩ = some (.slice yb st.2.2.length ycb))) ∧ (W.cell? ⟨W1.heap.size, 2, none⟩ = some (.int .i64 x.k) ∧ W.cell? ⟨W1.heap.size, 3, none⟩ = some (.string x.a) ∧ W.cell? ⟨W1.heap.size, 4, none⟩ = some (.string x.b)))
                    (first | exact HS6.out _ (by repeat (first | with_reducible exact Below.refl _ _ | with_reducible assumption | with_reducible refine Below.drew ?_ | with_reducible refine Below.setCell ?_ (by first | exact Nat.le_refl _ | exact z7) _ | with_reducible refine Below.alloc ?_ (by first | exact Nat.le_refl _ | exact z7) _)))
                    (first
                      | (go_at_call 59; (with_reducible refine (specExec va vc nm x.k x.a x.b ya yb yca ycb st.2.1 st.2.2 _ HNM.out.1 HNM.out.2 (HK6.out _ (by repeat (first | with_reducible exact Below.refl _ _ | with_reducible assumption | with_reducible refine Below.drew ?_ | with_reducible refine Below.alloc ?_ (Nat.le_refl _) _))).1 hst4 hst6 (HK6.out _ (by repeat (first | with_reducible exact Below.refl _ _ | with_reducible assumption | with_reducible refine Below.drew ?_ | with_reducible refine Below.alloc ?_ (Nat.le_refl _) _))).2 hna hnb).mono ?_); rw [HEX.out]; rintro e w7 ⟨xa, xca, xb, xcb, rfl, hin7, hb7⟩; have H7 : Below W6.heap.size W6 w7 := Below.trans (by repeat (first | with_reducible exact Below.refl _ _ | with_reducible assumption | with_reducible refine Below.drew ?_ | with_reducible refine Below.alloc ?_ (Nat.le_refl _) _)) (hb7.mono (by first | exact Nat.le_refl _ | (simp; done))); have z7 := H7.size; (try (have bA7 : BoxL w7 W6.heap.size [.slice none 0 0, .slice none 0 0] := BoxL.below (BoxL.new W6.drew [.slice none 0 0, .slice none 0 0] 30) hb7; have e70 := bA7.c 0 _ rfl; have e71 := bA7.c 1 _ rfl; have f70 := bA7.f; have l70 := bA7.lt)); skip)
                      | fail)
                  all_goals
                    first
                      | (obtain ⟨WA, hWA, bA, hNA, hBA⟩ := after2_alloc (w5 := W6) 30 hin7 (Nat.le_refl _) H7
                         rw [hWA])
                      | (obtain ⟨WA, hWA, bA, hNA, hBA⟩ := after2_store (w5 := W6) bA7 (Nat.le_refl _) (by simp) hin7 H7
                         rw [hWA])
                    clear hWA hin7 hb7 H7 hD
                    try clear e70 e71 f70 l70 bA7
                    have hzA := hBA.size
                    have hBA1 := HB6.out.trans (hBA.mono hz6)
                    have HNA := Lib.hid hNA
                    have HOA := Lib.hid (HOI.out.below hBA1)
                    have HBA1 := Lib.hid hBA1
                    have bXA := HBX6.out.below hBA
                    clear hBA hNA hBA1
                    by_cases hc9 : c9 = 0
                    case' neg =>
                      have hcb : (c9 == 0) = false := by simpa using hc9
                      have hE : stepS nm es st ((ED.take j).foldl (stepS nm es st) bs) (m : Int) = (ED.take j).foldl (stepS nm es st) bs := by
                        rw [stepS, if_neg (by rw [HNS.out]; exact hc9)]
                      have HE := Lib.hid (show OutS (w.heap.size + 1) ((ED.take (j + 1)).foldl (stepS nm es st) bs) _ WA ss' kb' by rw [HNX.out, hE]; exact HOA.out)
                      clear hc9 bA bXA hE
                      go_wp2
                      go_roundw
                      case rel => exact ⟨j + 1, kb', ss', HJ1.out, by go_num, HE.out, hkk, HON.out.trans (Only.of_below HBA1.out)⟩
                      case measure => have := HJ1.out; simp [intOf]; omega
                    case' pos =>
                      subst hc9
                      have hhb := exec_heap HEX.out
                      obtain ⟨⟨_, hu4, _⟩, hy6, _⟩ := heapB_parts hhb
                      have a0 := bA.c 0 _ rfl
                      have a1 := bA.c 1 _ rfl
                      have x1 := bXA.c 1 _ rfl
                      have hin := HNA.out
                      have hnu := own_nils hin.v.2.1
                      have hny := own_nils hin.z.2.1
                      have hsl2 : ss'.length ≤ 16777216 := by have := HYL.out; omega
                      clear bA bXA hin
                      go_wp2_with fail
                      refine (specPut (w.heap.size + 1) _ _ ss' kb' x.t xa xb xca xcb us ys _ HOA.out (by omega) hsl2 (fun z hz => by have := heapy_lens HHJ.out hz; unfold maxLen; omega) (HNA.out.at_) (fun e => (hnu e).2) (fun e => (hny e).2) (by omega) (by omega)).mono ?_
                      rintro e w9 ⟨v9, ss9, kb9, rfl, hO9, hk9, hon9⟩
                      have hE : stepS nm es st ((ED.take j).foldl (stepS nm es st) bs) (m : Int) = putS ((ED.take j).foldl (stepS nm es st) bs) (x.t, (us, ys)) := by
                        rw [stepS, if_pos (by rw [HNS.out]), HNS.out]
                      have HE := Lib.hid (show OutS (w.heap.size + 1) ((ED.take (j + 1)).foldl (stepS nm es st) bs) v9 w9 ss9 kb9 by rw [HNX.out, hE]; exact hO9)
                      have HON9 := Lib.hid hon9
                      clear hO9 hon9 hE a0 a1 x1
                      go_wp2
                      go_roundw
                      case rel =>
                        have ht := HON.out.trans (Only.of_below HBA1.out)
                        have h9 := HON9.out
                        have hzz := HBA1.out.size
                        refine ⟨j + 1, kb9, ss9, HJ1.out, by go_num, HE.out, ?_, ⟨h9.os.trans ht.os, h9.tape.trans ht.tape, h9.output.trans ht.output, Nat.le_trans ht.size h9.size, fun i hi hn => (h9.block i (Nat.lt_of_lt_of_le hi ht.size) (by omega)).trans (ht.block i hi hn)⟩⟩
                        rcases hk9 with e | e
                        · rw [e]; exact hkk
                        · exact .inr (by omega)
                      case measure => have := HJ1.out; simp [intOf]; omega
end Go.Proofs.YtpmmjaceehlpiaaGreatDoor
