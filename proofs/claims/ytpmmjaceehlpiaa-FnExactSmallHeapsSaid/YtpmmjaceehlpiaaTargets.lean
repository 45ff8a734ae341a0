/-
  The program's lists of numbers from -1 on: longer ones out of shorter ones, in lexicographic order.
-/
import Derived.Test.YtpmmjaceehlpiaaLists
import Derived.Test.YtpmmjaceehlpiaaLibRows
namespace Go.Proofs.Ytpmmjaceehlpiaa
open Go Go.RowKit Go.ChangeShapes Go.WideShapes Go.ChangeAt

def tailsT (l : List Int) (j : Nat) : List (List Int) := (List.range j).map fun (i : Nat) => l ++ [(i : Int) - 1]
theorem tailsT_next (l : List Int) (j : Nat) : tailsT l (j + 1) = tailsT l j ++ [l ++ [(j : Int) - 1]] := by simp [tailsT, List.range_succ]
def stepT (m : Nat) (ls : List (List Int)) : List (List Int) := ls.flatMap fun l => tailsT l m
theorem stepT_next (m : Nat) (ls : List (List Int)) (i : Nat) (h : i < ls.length) : stepT m (ls.take (i + 1)) = stepT m (ls.take i) ++ tailsT ls[i] m := by
  unfold stepT
  rw [take_next ls i h, List.flatMap_append]
  simp
theorem stepT_cons (m : Nat) (x : Int) : ∀ ls : List (List Int), stepT m (ls.map fun l => x :: l) = (stepT m ls).map fun l => x :: l
  | [] => rfl
  | l :: ls => by
    have ih := stepT_cons m x ls
    unfold stepT at *
    rw [List.map_cons, List.flatMap_cons, List.flatMap_cons, List.map_append, ih]
    congr 1
    simp [tailsT, Function.comp_def]
theorem stepT_append (m : Nat) (a b : List (List Int)) : stepT m (a ++ b) = stepT m a ++ stepT m b := by simp [stepT]
theorem stepT_rows (m : Nat) (less : List (List Int)) : ∀ i, stepT m (rowsS less i) = rowsS (stepT m less) i
  | 0 => by simp [rowsS, stepT]
  | i + 1 => by rw [rowsS_next, rowsS_next, stepT_append, stepT_rows m less i, stepT_cons]
/-- A list more at the end, or at the head: the same lists in the same order. -/
theorem stepT_lists (m : Nat) : ∀ n, stepT m (listsS m n) = listsS m (n + 1)
  | 0 => by
    show stepT m [[]] = rowsS [[]] m
    simp [stepT, tailsT, rowsS]
    induction m with
    | zero => rfl
    | succ m ih => simp [List.range_succ, ih]
  | n + 1 => by
    show stepT m (rowsS (listsS m n) m) = rowsS (listsS m (n + 1)) m
    rw [stepT_rows, stepT_lists m n]

theorem tailsT_length (l : List Int) (j : Nat) : (tailsT l j).length = j := by simp [tailsT]
theorem stepT_length (m : Nat) : ∀ ls : List (List Int), (stepT m ls).length = ls.length * m
  | [] => by simp [stepT]
  | l :: ls => by
    have ih := stepT_length m ls
    unfold stepT at *
    rw [List.flatMap_cons, List.length_append, ih, tailsT_length, List.length_cons, Nat.add_mul, Nat.one_mul, Nat.add_comm]
theorem room_t {m i j n : Nat} (h : i < n) (hj : j < m) : i * m + j + 1 ≤ n * m := by
  have h1 : (i + 1) * m ≤ n * m := Nat.mul_le_mul_right _ h
  rw [Nat.add_mul, Nat.one_mul] at h1
  omega
theorem own_pos {w : World} {base e size n : Nat} {v : Value} {xs : List Value} (h : w.ownsRow base e size v (n + 1) xs) : ∃ g cap, v = .slice (some ⟨g, 0, none⟩) (n + 1) cap := by
  rcases h.2 with ⟨_, h0⟩ | ⟨g, cap, cur, rfl, _⟩
  · omega
  · exact ⟨g, cap, rfl⟩

/-- A list of numbers, and where it lies: nil let in. -/
structure Lo where
  a : Option Addr
  c : Nat
  xs : List Int
def loCells (x : Lo) : List Value := [.slice x.a x.xs.length x.c]
theorem loCells_length (x : Lo) : (loCells x).length = 1 := rfl
structure LosAt (W : World) (a : Option Addr) (os : List Lo) : Prop where
  row : Row W W.heap.size a (fl loCells os)
  each : ∀ x ∈ os, Row W W.heap.size x.a (intVals x.xs)
theorem LosAt.below {W W' : World} {a : Option Addr} {os : List Lo} (h : LosAt W a os) (hb : Below W.heap.size W W') : LosAt W' a os :=
  ⟨(h.row.below hb).grow hb.size, fun x hx => ((h.each x hx).below hb).grow hb.size⟩
theorem LosAt.item {W : World} {a : Option Addr} {os : List Lo} (h : LosAt W a os) (k : Nat) (hk : k < os.length) : (∃ b o, a = some ⟨b, o, none⟩ ∧ b < W.heap.size ∧ W.cell? ⟨b, o + k, none⟩ = some (.slice os[k].a os[k].xs.length os[k].c)) ∧ Row W W.heap.size os[k].a (intVals os[k].xs) := by
  obtain ⟨b, o, e, hl, hc⟩ := Row.item loCells_length (by omega) h.row k hk
  have := hc 0 _ rfl
  simp only [Nat.mul_one, Nat.add_zero] at this
  exact ⟨⟨b, o, e, hl, this⟩, h.each _ (List.getElem_mem hk)⟩
def GaveLos (bs : List (List Int)) (w : World) (e : Ending) (w' : World) : Prop :=
  ∃ (a : Option Addr) (cap : Nat) (os : List Lo), os.map Lo.xs = bs ∧ e = .returned (.slice a os.length cap) ∧ LosAt w' a os ∧ Below w.heap.size w w'
def Lp.lo_ (x : Lp) : Lo := ⟨some ⟨x.g, 0, none⟩, x.c, x.xs⟩
theorem lo_vals : ∀ os : List Lp, fl loCells (os.map Lp.lo_) = lpVals os
  | [] => rfl
  | x :: os => by
    have ih := lo_vals os
    rw [List.map_cons, fl_cons, ih]
    rfl

/-- What has been made since W1. -/
def OutT (W1 : World) (bs : List (List Int)) (v : Value) (wr : World) : Prop :=
  ∃ os : List Lp, os.map Lp.xs = bs ∧ wr.ownsRow W1.heap.size 27 1 v os.length (lpVals os) ∧ (∀ x ∈ os, x.At W1.heap.size wr ∧ v.ownBlock ≠ some x.g) ∧ Below W1.heap.size W1 wr
theorem OutT.start (W1 : World) : OutT W1 [] (.slice none 0 0) W1 := ⟨[], rfl, World.ownsRow_nil _ _ _ _, fun x hx => by simp at hx, Below.refl _ _⟩
theorem own_at {W : World} {base e size n : Nat} {v : Value} {xs : List Value} (h : W.ownsRow base e size v n xs) : ∃ a c, v = .slice a n c ∧ Row W W.heap.size a xs := by
  obtain ⟨a, c, rfl⟩ := own_shape2 h
  exact ⟨a, c, rfl, (OwnIn.of h).row⟩
theorem outT_zero {W1 wr : World} {bs : List (List Int)} {v : Value} (l : List Int) (h : OutT W1 bs v wr) : OutT W1 (bs ++ tailsT l 0) v wr := by simpa [tailsT] using h
/-- One list more. -/
theorem outT_next {W1 wr w' : World} {bs : List (List Int)} {v v' : Value} {f : List Int} {os : List Lp} {G c : Nat} (hos : os.map Lp.xs = bs) (ho : wr.ownsRow W1.heap.size 27 1 v os.length (lpVals os)) (hx : ∀ x ∈ os, x.At W1.heap.size wr ∧ v.ownBlock ≠ some x.g) (hb1 : Below W1.heap.size W1 wr)
    (hz : wr.heap.size ≤ w'.heap.size) (hb : ∀ k, k < wr.heap.size → v.ownBlock ≠ some k → w'.heap[k]? = wr.heap[k]?) (hos' : w'.os = wr.os) (htp : w'.tape = wr.tape) (hout : w'.output = wr.output)
    (hG : wr.heap.size ≤ G) (hGl : G < w'.heap.size) (hGn : v'.ownBlock ≠ some G) (hrow : Row w' w'.heap.size (some ⟨G, 0, none⟩) (intVals f)) (hv : v'.ownBlock = v.ownBlock ∨ ∃ k, v'.ownBlock = some k ∧ wr.heap.size ≤ k)
    (hown : w'.ownsRow W1.heap.size 27 1 v' (os.length + 1) (lpVals os ++ [.slice (some ⟨G, 0, none⟩) f.length c])) : OutT W1 (bs ++ [f]) v' w' := by
  have hs1 := hb1.size
  refine ⟨os ++ [⟨G, c, f⟩], by rw [List.map_append, hos]; rfl, ?_, ?_, ⟨hos'.trans hb1.os, htp.trans hb1.tape, hout.trans hb1.output, Nat.le_trans hs1 hz, fun q hq => (hb q (Nat.lt_of_lt_of_le hq hs1) fun e => by have := (ho.lt q e).1; omega).trans (hb1.block q hq)⟩⟩
  · rw [List.length_append]
    show w'.ownsRow _ _ 1 v' (os.length + 1) _
    rw [show lpVals (os ++ [⟨G, c, f⟩]) = lpVals os ++ lpVals [⟨G, c, f⟩] from fl_append os _]
    exact hown
  · intro x hx'
    rcases List.mem_append.1 hx' with hx' | hx'
    · obtain ⟨hat, hne⟩ := hx x hx'
      refine ⟨hat.keep hz (hb _ hat.lt hne), ?_⟩
      rcases hv with hv | ⟨q, hv, hq⟩
      · rw [hv]
        exact hne
      · rw [hv]
        intro e
        have := Option.some.inj e
        have := hat.lt
        omega
    · rw [List.mem_singleton.1 hx']
      exact ⟨⟨hrow, Nat.le_trans hs1 hG, hGl⟩, hGn⟩
/-- All of them. -/
theorem outT_los {W1 wr : World} {bs : List (List Int)} {v : Value} (h : OutT W1 bs v wr) : ∃ (a : Option Addr) (cap : Nat) (os : List Lo), os.map Lo.xs = bs ∧ v = .slice a os.length cap ∧ LosAt wr a os ∧ Below W1.heap.size W1 wr := by
  obtain ⟨os, hbs, ho, hx, hb⟩ := h
  obtain ⟨a, c, rfl, hr⟩ := own_at ho
  refine ⟨a, c, os.map Lp.lo_, by rw [List.map_map]; exact hbs, by rw [List.length_map], ⟨by rw [lo_vals]; exact hr, fun x hx' => ?_⟩, hb⟩
  obtain ⟨y, hy, rfl⟩ := List.mem_map.1 hx'
  exact (hx y hy).1.row

set_option maxRecDepth 100000 in
set_option maxHeartbeats 1600000 in
theorem implTargets (n c : Nat) (hn : n ≤ 4) (hc : c ≤ 3) (w : World) : Calls Try.prog 30 #[.int .i64 (n : Int), .int .i64 (c : Int)] w (GaveLos (listsS (c + 1) n) w) := by
  obtain ⟨i0, hi9, hz0, hz1, hz2⟩ := info_parts listInfo
  obtain ⟨j0, hj9, hy0, hy1, hy2⟩ := info_parts numInfo9
  have hrow0 := (own_at (own_lit (w := w) (base := 0) (e := 27) (.slice none 0 0) (Nat.zero_le _)))
  have hb0 := (Below.refl w.heap.size w).alloc (Nat.le_refl _) (.cells #[.slice none 0 0] 27)
  go_enter Try.func30, Try.ntmps30
  go_wp2
  go_loopw [5, 12] (fun v t wr => ∃ (k : Nat) (a : Option Addr) (cap : Nat) (os : List Lo), k ≤ n ∧ t = .int .i64 (k : Int) ∧ os.map Lo.xs = listsS (c + 1) k ∧ v = .slice a os.length cap ∧ LosAt wr a os ∧ Below w.heap.size w wr) (fun _ t _ => n - (intOf t).toNat)
  case atStart =>
    obtain ⟨a, cc, e, hr⟩ := hrow0
    injection e with e1 _ e3
    subst e1
    exact ⟨0, _, 1, [⟨none, 0, []⟩], Nat.zero_le _, rfl, rfl, rfl, ⟨hr, fun x hx => by rw [List.mem_singleton.1 hx]; exact fun k u hu => by simp [intVals] at hu⟩, hb0⟩
  case round =>
    obtain ⟨k, a, cap, os, hk, rfl, hos, rfl, hat, hbw⟩ := hrel
    obtain ⟨W1, rfl⟩ : ∃ W1, W1 = wr := ⟨_, rfl⟩
    by_cases hlt : k < n
    · have hst := stepT_lists (c + 1) k
      have hls := listsS_le (m := c + 1) (n := k) (by omega) (by omega)
      have hle2 := listsS_le (m := c + 1) (n := k + 1) (by omega) (by omega)
      have hsl : ∀ l ∈ listsS (c + 1) k, l.length ≤ 4 := fun l hl => by rw [listsS_each hl]; omega
      have hll : os.length = (listsS (c + 1) k).length := by rw [← hos]; simp
      obtain ⟨big, hbig⟩ : ∃ big, listsS (c + 1) (k + 1) = big := ⟨_, rfl⟩
      rw [hbig] at hst hle2
      have HBIG := Lib.hid hbig
      clear hbig
      generalize hless : listsS (c + 1) k = less at *
      have HLL := Lib.hid hll
      have HST := Lib.hid hst
      have HAT := Lib.hid hat
      have HOS := Lib.hid hos
      have HBW := Lib.hid hbw
      have hO := OutT.start W1
      clear hst hat hos hbw hless hrow0 hb0 hll
      go_wp2
      go_loopw [6, 16] (fun v t wr => ∃ i : Nat, i ≤ os.length ∧ t = .int .i64 (i : Int) ∧ OutT W1 (stepT (c + 1) (less.take i)) v wr) (fun _ t _ => os.length - (intOf t).toNat)
      case atStart => exact ⟨0, Nat.zero_le _, rfl, hO⟩
      case round =>
        obtain ⟨i, hi, rfl, hO⟩ := hrel
        by_cases hlo : i < os.length
        · have hli : i < less.length := by have := HLL.out; omega
          have hxs : os[i].xs = less[i] := by
            have h1 : (os.map Lo.xs)[i]? = less[i]? := by rw [HOS.out]
            simpa [hlo, hli] using h1
          have hl4 : less[i].length ≤ 4 := hsl _ (List.getElem_mem hli)
          have hbq : Below W1.heap.size W1 wr := by
            obtain ⟨_, _, _, _, hb⟩ := hO
            exact hb
          obtain ⟨⟨b1, o1, e1, _, hc1⟩, _⟩ := (HAT.out.below hbq).item i hlo
          have hy : ∀ W, Below W1.heap.size W1 W → Row W W.heap.size os[i].a (intVals os[i].xs) := fun W hb => ((HAT.out.below hb).item i hlo).2
          have hnext := stepT_next (c + 1) less i hli
          subst e1
          rw [← hxs] at hl4 hnext
          generalize os[i] = y at *
          have HY := Lib.hid hy
          have HNEXT := Lib.hid hnext
          have hO0 := outT_zero y.xs hO
          have HO := Lib.hid hO0
          clear hy hnext hO hO0 hxs hbq
          go_wp2
          go_loopw [6, 9] (fun v t wr => ∃ j : Nat, j ≤ c + 1 ∧ t = .int .i64 ((j : Int) - 1) ∧ OutT W1 (stepT (c + 1) (less.take i) ++ tailsT y.xs j) v wr) (fun _ t _ => c + 1 - (intOf t + 1).toNat)
          case atStart => exact ⟨0, Nat.zero_le _, rfl, HO.out⟩
          case round =>
            obtain ⟨j, hj, rfl, hO⟩ := hrel
            by_cases hlj : j < c + 1
            · have hcond : ((j : Int) - 1 < (c : Int)) := by omega
              obtain ⟨ls, hos', ho, hx, hbw⟩ := hO
              obtain ⟨va, vc, rfl⟩ := own_shape2 ho
              have hlen : ls.length + 1 ≤ 256 := by
                have h1 := congrArg List.length hos'
                rw [List.length_append, stepT_length, tailsT_length, List.length_map, List.length_take, Nat.min_eq_left (Nat.le_of_lt hli)] at h1
                have h2 := congrArg List.length HST.out
                rw [stepT_length] at h2
                have h3 := room_t (m := c + 1) hli hlj
                omega
              have hbq := hbw
              have Hos := Lib.hid hos'
              have Ho := Lib.hid ho
              have Hx := Lib.hid hx
              have Hbw := Lib.hid hbw
              clear hos' ho hx hbw HO
              go_wp2_with fail
              refine (libClone y.a y.c y.xs _ (by omega) (HY.out _ hbq)).mono ?_
              rintro e w5 ⟨oa, oc, rfl, ho5, hb5⟩
              have hz5 := hb5.size
              have Ho5 := Lib.hid (ho5.alloc (.cells #[.int .i64 ((j : Int) - 1)] 3))
              have HB5 := Lib.hid hb5
              have HO5 := Lib.hid ((own_keeps Ho.out hb5).alloc (.cells #[.int .i64 ((j : Int) - 1)] 3))
              clear ho5 hb5 hbq
              go_wp2_with (first
                | (at_builtin; refine wpList_append_own_at _ rfl (.tmp 27) (.tmp 29) 27 rfl wr.heap.size 3 j0 (.int .i64 0) 1 8 Try.underlying27 hj9 hy0 hy1 hy2 rfl (by decide) (.slice oa y.xs.length oc) y.xs.length (intVals y.xs) rfl Ho5.out ⟨w5.heap.size, 0, none⟩ 1 1 [.int .i64 ((j : Int) - 1)] rfl rfl ?_ ?_ ?_ ?_ ?_ ?_; (focus exact lit_news _ _ _); (focus exact oneCell_int _); (focus (unfold maxLen; omega)); (focus omega); (focus (simp; omega)); intro v6 w6 hown6 hg6 _ _; obtain ⟨G, c6, rfl⟩ := own_pos hown6; have HO6 := Lib.hid (own_other HO5.out hg6 (fun k hk e => by have h1 := (Ho.out.lt k hk).2; have h2 := (Ho5.out.lt k e.symm).1; omega)); have HW6 := Lib.hid hown6; have HG6 := Lib.hid hg6; have hz6 := hg6.size; simp only [World.size_alloc] at hz6; have hG6 := hown6.lt G rfl; clear hown6 hg6)
                | (at_builtin; refine wpList_append_own_at _ rfl (.tmp 25) (.tmp 31) 40 rfl W1.heap.size 27 i0 (.slice none 0 0) 1 24 Try.underlying40 hi9 hz0 hz1 hz2 rfl (by decide) (.slice va ls.length vc) ls.length (lpVals ls) rfl (HO6.out.alloc _) ⟨w6.heap.size, 0, none⟩ 1 1 [.slice (some ⟨G, 0, none⟩) (y.xs.length + 1) c6] rfl rfl ?_ ?_ ?_ ?_ ?_ ?_; (focus exact lit_news _ _ _); (focus exact lit_one _ _ _); (focus (unfold maxLen; omega)); (focus omega); (focus (have h5 := Hbw.out.size; simp; omega)); intro v7 w7 hown7 hg7 _ hloc7; have HW7 := Lib.hid hown7; have HG7 := Lib.hid hg7; have HL7 := Lib.hid hloc7; have hz7 := hg7.size; simp only [World.size_alloc] at hz7; clear hown7 hg7 hloc7)
                | fail)
              go_roundw
              case rel =>
                have hg7 : (w6.alloc (.cells #[.slice (some ⟨G, 0, none⟩) (y.xs.length + 1) c6] 27)).grownBy w7 (Value.slice va ls.length vc).ownBlock := HG7.out
                have hl7 : v7.ownBlock = (Value.slice va ls.length vc).ownBlock ∨ v7.ownBlock = some (w6.alloc (.cells #[.slice (some ⟨G, 0, none⟩) (y.xs.length + 1) c6] 27)).heap.size := HL7.out
                have hg6 : (w5.alloc (.cells #[.int .i64 ((j : Int) - 1)] 3)).grownBy w6 (Value.slice oa y.xs.length oc).ownBlock := HG6.out
                have ha5 := (Below.refl w5.heap.size w5).alloc (Nat.le_refl _) (.cells #[.int .i64 ((j : Int) - 1)] 3)
                have ha6 := (Below.refl w6.heap.size w6).alloc (Nat.le_refl _) (.cells #[.slice (some ⟨G, 0, none⟩) (y.xs.length + 1) c6] 27)
                have z5 : (w5.alloc (.cells #[.int .i64 ((j : Int) - 1)] 3)).heap.size = w5.heap.size + 1 := by simp
                have z6 : (w6.alloc (.cells #[.slice (some ⟨G, 0, none⟩) (y.xs.length + 1) c6] 27)).heap.size = w6.heap.size + 1 := by simp
                rw [z6] at hl7
                have hGn : (Value.slice va ls.length vc).ownBlock ≠ some G := fun e => by have := (Ho.out.lt G e).2; omega
                have hGb : w7.heap[G]? = w6.heap[G]? := (hg7.block G (by rw [z6]; omega) (fun e => hGn e.symm)).trans (ha6.block G hG6.2)
                have hrow6 : Row w7 w7.heap.size (some ⟨G, 0, none⟩) (intVals (y.xs ++ [(j : Int) - 1])) := by
                  intro q u hu
                  rw [intVals_snoc] at hu
                  obtain ⟨b, o, e, hl, hc⟩ := own_row HW6.out q u hu
                  injection e with e
                  injection e with e1 e2 _
                  subst e1 e2
                  exact ⟨_, _, rfl, by omega, (World.cell?_of_block hGb).trans hc⟩
                refine ⟨j + 1, by omega, by go_num, ?_⟩
                rw [tailsT_next, ← List.append_assoc]
                refine outT_next (c := c6) (G := G) Hos.out Ho.out Hx.out Hbw.out (by omega) (fun q hq hqn => ?_) (hg7.os.trans (ha6.os.trans (hg6.os.trans (ha5.os.trans HB5.out.os)))) (hg7.tape.trans (ha6.tape.trans (hg6.tape.trans (ha5.tape.trans HB5.out.tape)))) (hg7.output.trans (ha6.output.trans (hg6.output.trans (ha5.output.trans HB5.out.output)))) hG6.1 (by omega) ?_ hrow6 ?_ ?_
                · exact (hg7.block q (by rw [z6]; omega) (fun e => hqn e.symm)).trans ((ha6.block q (by omega)).trans ((hg6.block q (by rw [z5]; omega) (fun e => by have := (Ho5.out.lt q e.symm).1; omega)).trans ((ha5.block q (by omega)).trans (HB5.out.block q hq))))
                · rcases hl7 with e | e
                  · rw [e]; exact hGn
                  · rw [e]; exact fun h => by have := Option.some.inj h; omega
                · rcases hl7 with e | e
                  · exact .inl e
                  · exact .inr ⟨_, e, by omega⟩
                · rw [List.length_append]
                  exact HW7.out
              case measure => simp [intOf]; omega
            · have hcond : ¬ ((j : Int) - 1 < (c : Int)) := by omega
              obtain rfl : j = c + 1 := by omega
              rw [← HNEXT.out] at hO
              have HN := Lib.hid hO
              clear hO
              go_wp2
              go_roundw
              case rel => exact ⟨i + 1, by omega, by go_num, HN.out⟩
              case measure => simp [intOf]; omega
        · obtain rfl : i = os.length := by omega
          rw [HLL.out, List.take_length, HST.out] at hO
          obtain ⟨a2, cap2, os2, hos2, rfl, hat2, hb2⟩ := outT_los hO
          have HR := Lib.hid (And.intro hos2 (And.intro hat2 (HBW.out.trans (hb2.mono HBW.out.size))))
          clear hos2 hat2 hb2 hO
          go_wp2
          go_roundw
          case rel => exact ⟨k + 1, a2, cap2, os2, by omega, by go_num, by rw [HBIG.out]; exact HR.out.1, rfl, HR.out.2.1, HR.out.2.2⟩
          case measure => simp [intOf]; omega
    · obtain rfl : k = n := by omega
      have HE := Lib.hid (show GaveLos (listsS (c + 1) k) w (.returned (.slice a os.length cap)) W1 from ⟨a, cap, os, hos, rfl, hat, hbw⟩)
      clear hat hbw hos
      go_wp2
      go_ret
      exact HE.out
end Go.Proofs.Ytpmmjaceehlpiaa
