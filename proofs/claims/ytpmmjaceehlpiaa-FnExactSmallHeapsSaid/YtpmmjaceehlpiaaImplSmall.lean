/-
  The program's small heaps: those of one size, and all of them.
-/
import Derived.Test.YtpmmjaceehlpiaaTargets
import Derived.Test.YtpmmjaceehlpiaaOwnNils
import Derived.Test.YtpmmjaceehlpiaaSpecSmall
import Derived.Test.YtpmmjaceehlpiaaImplCopy
import Derived.Test.YtpmmjaceehlpiaaImplIsHeap
namespace Go.Proofs.Ytpmmjaceehlpiaa
open Go Go.RowKit Go.ChangeShapes Go.WideShapes Go.ChangeAt

/-- append(v, xs...) at the operation: xs is any row, nil let in. -/
theorem wpList_append_any {P : Program} (w : World) {ops : Array Oper} {rest : List Oper} {o : Oper} {a : Act} {Q : Exit → Act → World → Prop} (hgd : o.guard = none) (s x : Operand) (t : TypeId)
    (ho : o.op = .call { callee := .builtin .append, args := #[s, x], argTypes := #[t, t] })
    (base : Nat) (e : TypeId) (i : TypeInfo) (z : Value) (size bytes : Nat) (ht : P.underlying t = some (.slice e)) (hi : P.info? e = some i) (hz : i.zero = some z)
    (hsize : i.size = size) (hby : i.bytes = bytes) (hzs : z.cells.size = size) (hsz : 0 < size)
    (v : Value) (n : Nat) (xs : List Value) (hs : a.eval s = v) (hown : w.ownsRow base e size v n xs)
    (ad : Option Addr) (m c : Nat) (news : List Value) (hx : a.eval x = .slice ad m c) (hnil : ad = none → m = 0 ∧ c = 0) (hl : news.length = m * size) (hnews : ∀ b, ad = some b → ∀ j u, news[j]? = some u → w.cell? (b.add j) = some u) (h1 : ∀ u ∈ news, u.oneCell' = true)
    (h63 : n + m ≤ maxLen) (hbytes : (n + m) * bytes ≤ 140737488355328) (hbase : base ≤ w.heap.size)
    (h : ∀ v' w', w'.ownsRow base e size v' (n + m) (xs ++ news) → w.grownBy w' v.ownBlock → (v'.ownBlock = v.ownBlock ∨ v'.ownBlock = some w.heap.size) → wpList P ops Q rest (a.put o.dst v') w') :
    wpList P ops Q (o :: rest) a w := by
  cases ad with
  | none =>
    obtain ⟨rfl, rfl⟩ := hnil rfl
    have hr := run_append_owned_none (P := P) w base t o.type e i size ht hi v n xs hown
    have hn0 : news = [] := List.eq_nil_of_length_eq_zero (by simpa using hl)
    subst hn0
    refine wpList_plain hgd fun K hK => ?_
    unfold Oper.wp execOp
    simp only [ho, resolve, invoke, builtin, Sem.run_bind, Sem.run_pure, Result.andThen_ok, List.map_toArray, List.map_cons, List.map_nil, hs, hx, hr]
    exact hK _ _ (h v w (by simpa using hown) ⟨rfl, rfl, rfl, Nat.le_refl _, fun _ _ _ => rfl⟩ (.inl rfl))
  | some b =>
    exact wpList_append_own_at w hgd s x t ho base e i z size bytes ht hi hz hsize hby hzs hsz v n xs hs hown b m c news hx hl (hnews b rfl) h1 h63 hbytes hbase fun v' w' h2 h3 _ h5 => h v' w' h2 h3 h5

/-- Heaps that a call made, in a row of its own: nil let in. -/
structure MadeH (base : Nat) (bs : List (List Int × List Int)) (v : Value) (wr : World) (hs : List Hp) : Prop where
  body : hs.map Hp.body = bs
  own : wr.ownsRow base 34 2 v hs.length (hpVals hs)
  ins : HeapsIn base wr hs
  off : ∀ k, v.ownBlock = some k → ∀ x ∈ hs, ¬ x.has k
section
variable {base : Nat} {bs cs : List (List Int × List Int)} {v v' : Value} {wr wr' wc w' : World} {hs ys : List Hp}
theorem MadeH.start : MadeH base [] (.slice none 0 0) wr [] := ⟨rfl, World.ownsRow_nil _ _ _ _, HeapsIn.nil, fun _ _ x hx => by simp at hx⟩
theorem MadeH.below (h : MadeH base bs v wr hs) (hb : Below wr.heap.size wr wr') : MadeH base bs v wr' hs := ⟨h.body, own_keeps h.own hb, h.ins.below hb, h.off⟩
theorem MadeH.mono {base' : Nat} (h : MadeH base bs v wr hs) (hb : base' ≤ base) : MadeH base' bs v wr hs := ⟨h.body, own_base h.own hb, h.ins.mono hb, h.off⟩
theorem HeapsIn.join (h : HeapsIn base wr hs) (k : HeapsIn base wr ys) (ha : ∀ x ∈ hs, ∀ y ∈ ys, ∀ i, x.has i → ¬ y.has i) : HeapsIn base wr (hs ++ ys) :=
  ⟨fun x hx => (List.mem_append.1 hx).elim (h.each x) (k.each x), List.pairwise_append.2 ⟨h.apart, k.apart, ha⟩⟩
theorem madeH_more (h : MadeH base bs v wc hs) (hy : HeapsIn base wc (hs ++ ys)) (hyk : ∀ k, v.ownBlock = some k → ∀ y ∈ ys, ¬ y.has k) (hyb : ys.map Hp.body = cs)
    (hown : w'.ownsRow base 34 2 v' (hs.length + ys.length) (hpVals hs ++ hpVals ys)) (hg : wc.grownBy w' v.ownBlock) (hl : v'.ownBlock = v.ownBlock ∨ v'.ownBlock = some wc.heap.size) : MadeH base (bs ++ cs) v' w' (hs ++ ys) := by
  have hoff : ∀ k, v.ownBlock = some k → ∀ x ∈ hs ++ ys, ¬ x.has k := fun k hk x hx => (List.mem_append.1 hx).elim (h.off k hk x) (hyk k hk x)
  refine ⟨by rw [List.map_append, h.body, hyb], ?_, hy.same hg.size fun x hx k hk => hg.block k (hy.has_lt hx hk).2 fun e => hoff k e.symm x hx hk, fun k hk x hx => ?_⟩
  · rw [List.length_append, show hpVals (hs ++ ys) = hpVals hs ++ hpVals ys from fl_append hs ys]
    exact hown
  · rcases hl with hl | hl
    · exact hoff k (hl.symm.trans hk) x hx
    · rw [hl] at hk
      have h1 := Option.some.inj hk
      exact fun hx2 => by have := (hy.has_lt hx hx2).2; omega
end
def GaveMade (bs : List (List Int × List Int)) (w : World) (e : Ending) (w' : World) : Prop := ∃ v hs, e = .returned v ∧ MadeH w.heap.size bs v w' hs ∧ Below w.heap.size w w'

theorem made_gave {bs : List (List Int × List Int)} {v : Value} {w wr : World} {hs : List Hp} (h : MadeH w.heap.size bs v wr hs) (hb : Below w.heap.size w wr) : GaveMade bs w (.returned v) wr := ⟨v, hs, rfl, h, hb⟩
theorem madeH_eq {base : Nat} {bs cs : List (List Int × List Int)} {v : Value} {wr : World} {hs : List Hp} (h : MadeH base bs v wr hs) (e : bs = cs) : MadeH base cs v wr hs := e ▸ h
theorem blockS_len {v n : Nat} (hv : v ≤ 4) (hn : n ≤ 3) : (blockS v n).length ≤ 65536 := by
  have h1 := listsS_le (m := n + 1) (n := v) (by omega) hv
  have h2 := listsS_le (m := n + 1) (n := n) (by omega) (by omega)
  exact Nat.le_trans (flat_len _ _ 256 fun hd _ => Nat.le_trans (pairsS_len _ _ _) h2) (by omega)
theorem part_len {v n i k : Nat} (hv : v ≤ 4) (hn : n ≤ 3) (hd : List Int) :
    (((listsS (n + 1) v).take i).flatMap (fun hd => pairsS (v : Int) hd (listsS (n + 1) n)) ++ pairsS (v : Int) hd ((listsS (n + 1) n).take k)).length ≤ 70000 := by
  have h := small_len (c := 3) (i := i) (k := k) hv (Nat.le_refl _) hn hd
  have h1 := listsS_le (m := n + 1) (n := v) (by omega) hv
  have h2 := listsS_le (m := n + 1) (n := n) (by omega) (by omega)
  have p2 := flat_len (fun hd => pairsS (v : Int) hd (listsS (n + 1) n)) ((listsS (n + 1) v).take i) 256 (fun hd _ => Nat.le_trans (pairsS_len _ _ _) h2)
  have p3 := pairsS_len (v : Int) hd ((listsS (n + 1) n).take k)
  rw [List.length_take] at p2 p3
  rw [List.length_append]
  have h3 : min i (listsS (n + 1) v).length * 256 ≤ 65536 := by
    have : min i (listsS (n + 1) v).length ≤ 256 := Nat.le_trans (Nat.min_le_right _ _) h1
    omega
  omega
set_option maxRecDepth 100000 in
set_option maxHeartbeats 3200000 in
theorem implHeapsOf (v n : Nat) (hv : 1 ≤ v ∧ v ≤ 4) (hn : n ≤ 3) (w : World) : Calls Try.prog 19 #[.int .i64 (v : Int), .int .i64 (n : Int)] w (GaveMade (blockS v n) w) := by
  obtain ⟨i0, hi9, hz0, hz1, hz2⟩ := info_parts heapInfo
  go_enter Try.func19, Try.ntmps19
  go_wp2_with fail
  refine (implTargets n n (by omega) hn _).mono ?_
  rintro e w1 ⟨a1, c1, os1, hos1, rfl, hat1, hb1⟩
  have hy1 := hb1.size
  have HOS1 := Lib.hid hos1
  have HAT1 := Lib.hid hat1
  have HB1 := Lib.hid hb1
  clear hos1 hat1 hb1
  go_wp2_with fail
  refine (implTargets v n hv.2 hn _).mono ?_
  rintro e w2 ⟨a2, c2, os2, hos2, rfl, hat2, hb2⟩
  have hy2 := hb2.size
  have hl1 : os1.length = (listsS (n + 1) n).length := by rw [← HOS1.out]; simp
  have hl2 : os2.length = (listsS (n + 1) v).length := by rw [← hos2]; simp
  have hm1 := listsS_le (m := n + 1) (n := n) (by omega) (by omega)
  have hm2 := listsS_le (m := n + 1) (n := v) (by omega) (by omega)
  rw [← hl1] at hm1
  rw [← hl2] at hm2
  have HL1 := Lib.hid hl1
  have HL2 := Lib.hid hl2
  have HOS2 := Lib.hid hos2
  have HATS := Lib.hid (show ∀ W, Below w2.heap.size w2 W → LosAt W a1 os1 ∧ LosAt W a2 os2 from fun W hb => ⟨(HAT1.out.below hb2).below hb, hat2.below hb⟩)
  have HBW := Lib.hid (show ∀ W, Below w2.heap.size w2 W → Below w.heap.size w W from fun W hb => (HB1.out.trans (hb2.mono hy1)).trans (hb.mono (Nat.le_trans hy1 hy2)))
  clear hl1 hl2 hos2 hat2 hb2
  go_wp2
  go_loopw [5, 19] (fun u t wr => ∃ (j : Nat) (hs : List Hp), j ≤ os2.length ∧ t = .int .i64 (j : Int) ∧ MadeH w2.heap.size (((listsS (n + 1) v).take j).flatMap (fun hd => pairsS (v : Int) hd (listsS (n + 1) n))) u wr hs ∧ Below w2.heap.size w2 wr) (fun _ t _ => os2.length - (intOf t).toNat)
  case atStart => exact ⟨0, [], Nat.zero_le _, rfl, MadeH.start, Below.refl _ _⟩
  case round =>
    obtain ⟨j, hs, hj, rfl, hO, hbw⟩ := hrel
    by_cases hlj : j < os2.length
    · have hlj' : j < (listsS (n + 1) v).length := by have := HL2.out; omega
      obtain ⟨⟨b2, o2, e2, _, hc2⟩, _⟩ := (HATS.out _ hbw).2.item j hlj
      have hy : ∀ W, Below w2.heap.size w2 W → Row W W.heap.size os2[j].a (intVals os2[j].xs) := fun W hb => ((HATS.out _ hb).2.item j hlj).2
      have hxs : os2[j].xs = (listsS (n + 1) v)[j] := by
        have h1 : (os2.map Lo.xs)[j]? = (listsS (n + 1) v)[j]? := by rw [HOS2.out]
        simpa [hlj, hlj'] using h1
      have hxl : os2[j].xs.length = v := by rw [hxs]; exact listsS_each (List.getElem_mem hlj')
      have hO0 := madeH_eq hO (show _ = ((listsS (n + 1) v).take j).flatMap (fun hd => pairsS (v : Int) hd (listsS (n + 1) n)) ++ pairsS (v : Int) os2[j].xs ((listsS (n + 1) n).take 0) by simp [pairsS])
      have hnext : ((listsS (n + 1) v).take (j + 1)).flatMap (fun hd => pairsS (v : Int) hd (listsS (n + 1) n)) = ((listsS (n + 1) v).take j).flatMap (fun hd => pairsS (v : Int) hd (listsS (n + 1) n)) ++ pairsS (v : Int) os2[j].xs (listsS (n + 1) n) := by
        rw [hxs]
        exact flat_next (fun hd => pairsS (v : Int) hd (listsS (n + 1) n)) _ j hlj'
      subst e2
      generalize os2[j] = x at *
      have HX := Lib.hid hy
      have HXL := Lib.hid hxl
      have HNEXT := Lib.hid hnext
      have HO0 := Lib.hid hO0
      have HBW0 := Lib.hid hbw
      clear hy hxs hxl hO0 hO hnext hbw
      go_wp2
      go_loopw [5, 25] (fun u t wr => ∃ (k : Nat) (hs : List Hp), k ≤ os1.length ∧ t = .int .i64 (k : Int) ∧ MadeH w2.heap.size (((listsS (n + 1) v).take j).flatMap (fun hd => pairsS (v : Int) hd (listsS (n + 1) n)) ++ pairsS (v : Int) x.xs ((listsS (n + 1) n).take k)) u wr hs ∧ Below w2.heap.size w2 wr) (fun _ t _ => os1.length - (intOf t).toNat)
      case atStart => exact ⟨0, hs, Nat.zero_le _, rfl, HO0.out, HBW0.out⟩
      case round =>
        clear HO0 HBW0
        obtain ⟨k, hs, hk, rfl, hO, hbw⟩ := hrel
        by_cases hlk : k < os1.length
        · have hlk' : k < (listsS (n + 1) n).length := by have := HL1.out; omega
          obtain ⟨⟨b1, o1, e1, _, hc1⟩, _⟩ := (HATS.out _ hbw).1.item k hlk
          have hy : ∀ W, Below w2.heap.size w2 W → Row W W.heap.size os1[k].a (intVals os1[k].xs) := fun W hb => ((HATS.out _ hb).1.item k hlk).2
          have hys : os1[k].xs = (listsS (n + 1) n)[k] := by
            have h1 : (os1.map Lo.xs)[k]? = (listsS (n + 1) n)[k]? := by rw [HOS1.out]
            simpa [hlk, hlk'] using h1
          have hyl : os1[k].xs.length = n := by rw [hys]; exact listsS_each (List.getElem_mem hlk')
          have hlen := part_len (n := n) (i := j) (k := k) hv.2 hn x.xs
          have hnx : pairsS (v : Int) x.xs ((listsS (n + 1) n).take (k + 1)) = pairsS (v : Int) x.xs ((listsS (n + 1) n).take k) ++ (if heapB (v : Int) x.xs os1[k].xs = true then [(x.xs, os1[k].xs)] else []) := by
            rw [hys]
            exact flat_next _ _ k hlk'
          have hsl := congrArg List.length hO.body
          rw [List.length_map] at hsl
          rw [← hsl] at hlen
          subst e1
          generalize os1[k] = y at *
          obtain ⟨va, vc, rfl⟩ := own_shape2 hO.own
          have hAT : ∀ W, Below w2.heap.size w2 W → HeapAt W x.a y.a x.xs y.xs := fun W hb => ⟨HX.out W hb, hy W hb⟩
          have HAT := Lib.hid hAT
          have HYL := Lib.hid hyl
          have HNX := Lib.hid hnx
          have HO := Lib.hid hO
          have HBR := Lib.hid hbw
          have hmx : x.xs.length ≤ 4 := by have := HXL.out; omega
          have hmy : y.xs.length ≤ 3 := by have := HYL.out; omega
          have hzr : w2.heap.size ≤ wr.heap.size := hbw.size
          clear hy hys hyl hsl hnx hO hAT hbw
          go_wp2_with fail
          have hb5 := (Below.refl wr.heap.size wr).alloc (Nat.le_refl _) (.cells #[.slice x.a x.xs.length x.c, .slice y.a y.xs.length y.c] 34)
          have hbox := BoxL.new wr [.slice x.a x.xs.length x.c, .slice y.a y.xs.length y.c] 34
          replace hbox : BoxL (wr.alloc (.cells #[.slice x.a x.xs.length x.c, .slice y.a y.xs.length y.c] 34)) wr.heap.size [.slice x.a x.xs.length x.c, .slice y.a y.xs.length y.c] := hbox
          obtain ⟨WD, hWD⟩ : ∃ W, wr.alloc (.cells #[.slice x.a x.xs.length x.c, .slice y.a y.xs.length y.c] 34) = W := ⟨_, rfl⟩
          rw [hWD] at hb5 hbox ⊢
          clear hWD
          have hbd := HBR.out.trans (hb5.mono hzr)
          refine (implIsHeap (v : Int) x.a y.a x.c y.c x.xs y.xs _ (by unfold maxLen; omega) (by unfold maxLen; omega) (HAT.out _ hbd)).mono ?_
          rintro e w5 ⟨rfl, hb6⟩
          have hbd5 := hbd.trans (hb6.mono hbd.size)
          have hbox5 := hbox.below hb6
          have u0 := hbox5.c 0 _ rfl
          have u1 := hbox5.c 1 _ rfl
          have HO5 := Lib.hid ((HO.out.below hb5).below hb6)
          have HBD5 := Lib.hid hbd5
          have HAT5 := Lib.hid (HAT.out _ hbd5)
          have hz5 := hbd5.size
          have hzr5 : wr.heap.size ≤ w5.heap.size := Nat.le_trans hb5.size hb6.size
          clear hb5 hbox hbd hb6 hbd5 hbox5
          cases hp : heapB (v : Int) x.xs y.xs
          case' false =>
            rw [hp] at HNX
            have HE := Lib.hid (madeH_eq HO5.out (show _ = ((listsS (n + 1) v).take j).flatMap (fun hd => pairsS (v : Int) hd (listsS (n + 1) n)) ++ pairsS (v : Int) x.xs ((listsS (n + 1) n).take (k + 1)) by
              rw [HNX.out, if_neg (by decide), List.append_nil]))
            clear u0 u1
            go_wp2
            go_roundw
            case rel => exact ⟨k + 1, hs, by omega, by go_num, HE.out, HBD5.out⟩
            case measure => simp [intOf]; omega
          case' true =>
            rw [hp] at HNX
            go_wp2_with fail
            refine (implCopy x.a y.a x.c y.c x.xs y.xs _ (by omega) (by omega) HAT5.out).mono ?_
            rintro e w6 ⟨a6, c6, b6, d6, rfl, hin6, hb6⟩
            have HIN6 := Lib.hid hin6
            have HB6 := Lib.hid hb6
            have HO6 := Lib.hid (HO5.out.below hb6)
            have hz6 := hb6.size
            clear hin6 hb6 u0 u1
            go_wp2_with (first
              | (at_builtin; refine wpList_append_own_at _ rfl (.tmp 35) (.tmp 38) 22 rfl w2.heap.size 34 i0 (.agg #[.slice none 0 0, .slice none 0 0]) 2 48 Try.underlying22 hi9 hz0 hz1 hz2 rfl (by decide) _ hs.length (hpVals hs) rfl (HO6.out.own.alloc _) ⟨w6.heap.size, 0, none⟩ 1 1 [.slice a6 x.xs.length c6, .slice b6 y.xs.length d6] rfl rfl ?_ ?_ ?_ ?_ ?_ ?_; (focus exact lit2_news _ _ _ _); (focus exact lit2_one _ _ _ _ _ _); (focus (unfold maxLen; omega)); (focus omega); (focus (simp; omega)); intro v7 w7 hown7 hg7 _ hloc7; have HO7 := Lib.hid hown7; have HG7 := Lib.hid hg7; have HL7 := Lib.hid hloc7; clear hown7 hg7 hloc7)
              | fail)
            go_roundw
            case rel =>
              have hg7 : (w6.alloc (.cells #[.slice a6 x.xs.length c6, .slice b6 y.xs.length d6] 34)).grownBy w7 (Value.slice va hs.length vc).ownBlock := HG7.out
              have ha := (Below.refl w6.heap.size w6).alloc (Nat.le_refl _) (.cells #[.slice a6 x.xs.length c6, .slice b6 y.xs.length d6] 34)
              have hN : Hp.In w5.heap.size w6.heap.size w6 ⟨a6, c6, b6, d6, x.xs, y.xs⟩ := HIN6.out
              have hN' : Hp.In w2.heap.size (w6.alloc (.cells #[.slice a6 x.xs.length c6, .slice b6 y.xs.length d6] 34)).heap.size (w6.alloc (.cells #[.slice a6 x.xs.length c6, .slice b6 y.xs.length d6] 34)) ⟨a6, c6, b6, d6, x.xs, y.xs⟩ :=
                (hN.same ha.size (fun q hq => ha.block q (hN.has_lt hq).2)).mono (by omega) ha.size (Nat.le_refl _)
              have hO8 := HO6.out.below ha
              have h7 := madeH_more (ys := [⟨a6, c6, b6, d6, x.xs, y.xs⟩]) (cs := [(x.xs, y.xs)]) hO8 (hO8.ins.snoc hN' fun z hz q hq hq2 => by have := (HO5.out.ins.has_lt hz hq).2; have := (hN.has_lt hq2).1; omega)
                (fun q hq z hz hh => by rw [List.mem_singleton.1 hz] at hh; have := (HO5.out.own.lt q hq).2; have := (hN.has_lt hh).1; omega) rfl HO7.out hg7 HL7.out
              refine ⟨k + 1, hs ++ [⟨a6, c6, b6, d6, x.xs, y.xs⟩], by omega, by go_num, ?_, Only.below (S := fun q => (Value.slice va hs.length vc).ownBlock = some q) (Only.of_grown hg7 fun q hq => hq) ((HBD5.out.trans (HB6.out.mono hz5)).trans (ha.mono (by omega))) (by simp; omega) (fun q hq => (HO6.out.own.lt q hq).1)⟩
              rw [HNX.out, if_pos (by trivial), ← List.append_assoc]
              exact h7
            case measure => simp [intOf]; omega
        · have hke : k = (listsS (n + 1) n).length := by have := HL1.out; omega
          rw [hke, List.take_length, ← HNEXT.out] at hO
          have HN := Lib.hid (And.intro hO hbw)
          clear hO hbw
          go_wp2
          go_roundw
          case rel => exact ⟨j + 1, hs, by omega, by go_num, HN.out.1, HN.out.2⟩
          case measure => simp [intOf]; omega
    · have hje : j = (listsS (n + 1) v).length := by have := HL2.out; omega
      rw [hje, List.take_length] at hO
      have HE := Lib.hid (made_gave (hO.mono (Nat.le_trans hy1 hy2)) (HBW.out _ hbw))
      clear hO hbw
      go_wp2
      go_ret
      exact HE.out
theorem hpVals_ones (hs : List Hp) : ∀ u ∈ hpVals hs, u.oneCell' = true := by
  intro u hu
  obtain ⟨x, _, hx⟩ := List.mem_flatMap.1 hu
  simp only [hpCells, List.mem_cons, List.not_mem_nil, or_false] at hx
  rcases hx with rfl | rfl <;> rfl
theorem sizes_len {v c n : Nat} (hv : v ≤ 4) (hc : c ≤ 3) (hn : n ≤ c + 1) : ((List.range n).flatMap (blockS v)).length ≤ 400000 := by
  have h := flat_len (blockS v) (List.range n) 65536 (fun m hm => by
    have := List.mem_range.1 hm
    exact blockS_len hv (by omega))
  rw [List.length_range] at h
  omega
set_option maxRecDepth 100000 in
set_option maxHeartbeats 1600000 in
theorem implSmall_good (v c : Nat) (hv : 1 ≤ v ∧ v ≤ 4) (hc : c ≤ 3) (w : World) : Calls Try.prog 6 #[.int .i64 (v : Int), .int .i64 (c : Int)] w (GaveMade ((List.range (c + 1)).flatMap (blockS v)) w) := by
  obtain ⟨i0, hi9, hz0, hz1, hz2⟩ := info_parts heapInfo
  have q1 : ¬ ((v : Int) < 1) := by omega
  have q2 : ¬ (4 < (v : Int)) := by omega
  have q3 : ¬ ((c : Int) < 0) := by omega
  have q4 : ¬ (3 < (c : Int)) := by omega
  go_enter Try.func6, Try.ntmps6
  go_wp2
  go_loopw [5, 23] (fun u t wr => ∃ (n : Nat) (hs : List Hp), n ≤ c + 1 ∧ t = .int .i64 (n : Int) ∧ MadeH w.heap.size ((List.range n).flatMap (blockS v)) u wr hs ∧ Below w.heap.size w wr) (fun _ t _ => c + 1 - (intOf t).toNat)
  case atStart => exact ⟨0, [], Nat.zero_le _, rfl, MadeH.start, Below.refl _ _⟩
  case round =>
    clear q1 q2 q3 q4
    obtain ⟨n, hs, hn, rfl, hO, hbw⟩ := hrel
    have hlen := sizes_len hv.2 hc hn
    have hsl := congrArg List.length hO.body
    rw [List.length_map] at hsl
    rw [← hsl] at hlen
    by_cases hlt : n < c + 1
    · have hcond : (n : Int) < (c : Int) + 1 := by omega
      have hle := blockS_len (v := v) (n := n) hv.2 (by omega)
      obtain ⟨va, vc, rfl⟩ := own_shape2 hO.own
      have hzw := hbw.size
      have hbd : (List.range (n + 1)).flatMap (blockS v) = (List.range n).flatMap (blockS v) ++ blockS v n := by simp [List.range_succ]
      have HBD := Lib.hid hbd
      have HO := Lib.hid hO
      have HBW := Lib.hid hbw
      clear hO hbw hsl hbd
      go_wp2_with fail
      refine (implHeapsOf v n hv (by omega) _).mono ?_
      rintro e w1 ⟨v1, ys, rfl, hM1, hb1⟩
      obtain ⟨a1, c1, rfl⟩ := own_shape2 hM1.own
      have hyl := congrArg List.length hM1.body
      rw [List.length_map] at hyl
      rw [← hyl] at hle
      have hy1 := hb1.size
      have HM1 := Lib.hid hM1
      have HB1 := Lib.hid hb1
      have HO1 := Lib.hid (HO.out.below hb1)
      clear hM1 hb1 hyl
      go_wp2_with (first
        | (at_builtin; refine wpList_append_any _ rfl (.tmp 26) (.tmp 29) 22 rfl w.heap.size 34 i0 (.agg #[.slice none 0 0, .slice none 0 0]) 2 48 Try.underlying22 hi9 hz0 hz1 hz2 rfl (by decide) (.slice va hs.length vc) hs.length (hpVals hs) rfl HO1.out.own a1 ys.length c1 (hpVals ys) rfl (own_nils HM1.out.own) (fl_length hpCells_length ys) (row_news (OwnIn.of HM1.out.own).row) (hpVals_ones ys) ?_ ?_ ?_ ?_; (focus (unfold maxLen; omega)); (focus omega); (focus omega); intro v7 w7 hown7 hg7 hloc7; have HO7 := Lib.hid hown7; have HG7 := Lib.hid hg7; have HL7 := Lib.hid hloc7; clear hown7 hg7 hloc7)
        | fail)
      go_roundw
      case rel =>
        have hM := madeH_more HO1.out (HO1.out.ins.join (HM1.out.mono (by omega)).ins fun x hx y hy k hk hk2 => by have := (HO.out.ins.has_lt hx hk).2; have := (HM1.out.ins.has_lt hy hk2).1; omega)
          (fun k hk y hy hh => by have := (HO.out.own.lt k hk).2; have := (HM1.out.ins.has_lt hy hh).1; omega) HM1.out.body HO7.out HG7.out HL7.out
        exact ⟨n + 1, hs ++ ys, by omega, by go_num, by rw [HBD.out]; exact hM, Only.below (S := fun q => (Value.slice va hs.length vc).ownBlock = some q) (Only.of_grown HG7.out fun q hq => hq) (HBW.out.trans (HB1.out.mono hzw)) (by omega) (fun q hq => (HO.out.own.lt q hq).1)⟩
      case measure => simp [intOf]; omega
    · obtain rfl : n = c + 1 := by omega
      have HE := Lib.hid (made_gave hO hbw)
      clear hO hbw
      go_wp2
      go_ret
      exact HE.out
set_option maxRecDepth 100000 in
theorem implSmall (v c : Int) (w : World) : Calls Try.prog 6 #[.int .i64 v, .int .i64 c] w (GaveMade (smallS v c) w) := by
  by_cases hg : (1 ≤ v ∧ v ≤ 4) ∧ (0 ≤ c ∧ c ≤ 3)
  · obtain ⟨m, rfl⟩ : ∃ m : Nat, v = (m : Int) := ⟨v.toNat, by omega⟩
    obtain ⟨d, rfl⟩ : ∃ d : Nat, c = (d : Int) := ⟨c.toNat, by omega⟩
    have := implSmall_good m d (by omega) (by omega) w
    rw [smallS, if_pos hg]
    simpa using this
  · rw [smallS, if_neg hg]
    have HE := Lib.hid (show GaveMade [] w (.returned (.slice none 0 0)) w from made_gave MadeH.start (Below.refl _ _))
    by_cases h1 : v < 1
    · clear hg
      go_enter Try.func6, Try.ntmps6
      go_wp2
      go_ret
      exact HE.out
    · by_cases h2 : 4 < v
      · clear hg
        go_enter Try.func6, Try.ntmps6
        go_wp2
        go_ret
        exact HE.out
      · by_cases h3 : c < 0
        · clear hg
          go_enter Try.func6, Try.ntmps6
          go_wp2
          go_ret
          exact HE.out
        · have h4 : 3 < c := by omega
          clear hg
          go_enter Try.func6, Try.ntmps6
          go_wp2
          go_ret
          exact HE.out
end Go.Proofs.Ytpmmjaceehlpiaa
