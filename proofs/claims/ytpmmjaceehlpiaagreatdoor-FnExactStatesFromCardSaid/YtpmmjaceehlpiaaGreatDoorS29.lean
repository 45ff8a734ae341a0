/-
  The walk of the law FnExactStatesFrom.
-/
import Derived.ChangeMaps5
import Derived.Deep.RegionHeld3
import Derived.Test.YtpmmjaceehlpiaaGreatDoorS28
import Derived.Test.YtpmmjaceehlpiaaGreatDoorS27
import Derived.Test.YtpmmjaceehlpiaaGreatDoorS19
import Derived.Test.YtpmmjaceehlpiaaGreatDoorS18
import Derived.Test.YtpmmjaceehlpiaaGreatDoorS20
namespace Go.Proofs.YtpmmjaceehlpiaaGreatDoor.exactStatesFrom
open Go Go.RowKit Go.ChangeShapes Go.WideShapes Go.ChangeAt

/-- The law said true, and nothing old has turned. -/
def TrueEnd (w : World) (e : Ending) (w' : World) : Prop := e = .returned (.bool true) ∧ Below w.heap.size w w'

theorem new_box (w : World) (xs : List Value) (t : TypeId) : ∃ W, w.alloc (.cells xs.toArray t) = W ∧ BoxL W w.heap.size xs ∧ Below w.heap.size w W ∧ w.heap.size < W.heap.size :=
  ⟨_, rfl, BoxL.new w xs t, (Below.refl _ _).alloc (Nat.le_refl _) _, by simp⟩
theorem turn_only {S : Nat → Prop} {lo hi : Nat} {W W' : World} (h : Only S W W') (hS : ∀ k, S k → lo ≤ k ∧ k < hi) : Turn lo hi W W' :=
  ⟨h.os, h.tape, h.output, h.size, fun k hk hd => h.block k hk fun hs => by have := hS k hs; omega⟩
theorem in_turn {lo lo' hi' : Nat} {W W' : World} {hs : List Hp} (h : HeapsIn lo W hs) (t : Turn lo' hi' W W') (hd : ∀ k, hasAny hs k → k < lo' ∨ hi' ≤ k) : HeapsIn lo W' hs :=
  h.same t.size fun _ hx k hk => t.block k (h.has_lt hx hk).2 (hd k ⟨_, hx, hk⟩)
theorem row_turn {lo' hi' g o : Nat} {W W' : World} {xs : List Value} (h : Row W W.heap.size (some ⟨g, o, none⟩) xs) (t : Turn lo' hi' W W') (hd : g < lo' ∨ hi' ≤ g) : Row W' W'.heap.size (some ⟨g, o, none⟩) xs := by
  intro k x hx
  obtain ⟨b, o', e, hb, hc⟩ := h k x hx
  injection e with e
  injection e with e1 e2 _
  subst e1 e2
  exact ⟨_, _, rfl, Nat.lt_of_lt_of_le hb t.size, (World.cell?_of_block (t.block _ hb hd)).trans hc⟩
theorem own_turn {lo' hi' base e size n : Nat} {v : Value} {xs : List Value} {W W' : World} (h : W.ownsRow base e size v n xs) (t : Turn lo' hi' W W') (hd : ∀ k, v.ownBlock = some k → k < lo' ∨ hi' ≤ k) : W'.ownsRow base e size v n xs := by
  refine ⟨h.1, h.2.imp id ?_⟩
  rintro ⟨g, cap, cur, rfl, hb, hgc, r⟩
  exact ⟨g, cap, cur, rfl, hb, (t.block g (h.lt g rfl).2 (hd g rfl)).trans hgc, r⟩
theorem size_le : ∀ (hs : List Hp) (x : Hp), x ∈ hs → hpSize x ≤ hpTotal hs
  | y :: hs, x, h => by
    rw [show hpTotal (y :: hs) = hpSize y + hpTotal hs by simp [hpTotal]]
    rcases List.mem_cons.1 h with rfl | h
    · omega
    · have := size_le hs x h
      omega
theorem total_body : ∀ (ks hs : List Hp), ks.map Hp.body = hs.map Hp.body → hpTotal ks = hpTotal hs
  | [], [], _ => rfl
  | [], _ :: _, h => by simp at h
  | _ :: _, [], h => by simp at h
  | x :: ks, y :: hs, h => by
    simp only [List.map_cons, List.cons.injEq] at h
    have hx : x.vs = y.vs ∧ x.zs = y.zs := by simpa [Hp.body] using h.1
    rw [show hpTotal (x :: ks) = hpSize x + hpTotal ks by simp [hpTotal], show hpTotal (y :: hs) = hpSize y + hpTotal hs by simp [hpTotal], total_body ks hs h.2, hpSize, hpSize, hx.1, hx.2]
theorem lens_body {ks hs : List Hp} {m : Nat} (hb : ks.map Hp.body = hs.map Hp.body) (h : ∀ x ∈ hs, x.vs.length ≤ m ∧ x.zs.length ≤ m) : ∀ x ∈ ks, x.vs.length ≤ m ∧ x.zs.length ≤ m := fun x hx => by
  have h1 : x.body ∈ hs.map Hp.body := hb ▸ List.mem_map_of_mem hx
  obtain ⟨y, hy, he⟩ := List.mem_map.1 h1
  have hxy : y.vs = x.vs ∧ y.zs = x.zs := by simpa [Hp.body] using he
  rw [← hxy.1, ← hxy.2]
  exact h y hy
theorem total_small : ∀ (ss : List Sp), (∀ x ∈ ss, x.h.vs.length ≤ 4 ∧ x.h.zs.length ≤ 6) → spTotal ss ≤ 11 * ss.length
  | [], _ => by simp [spTotal]
  | x :: ss, h => by
    have h1 := h x (by simp)
    have h2 := total_small ss fun y hy => h y (by simp [hy])
    rw [show spTotal (x :: ss) = spSize x + spTotal ss by simp [spTotal], spSize, hpSize, List.length_cons]
    omega
theorem start_heapy {n : Int} : ∀ (hs : List (List Int × List Int)) (l : List Sb), Heapy n l → hs.all (fun h => heapB n h.1 h.2) = true → Heapy n (hs.foldl (fun l h => putS l (0, h)) l)
  | [], l, h, _ => h
  | x :: hs, l, h, hg => by
    simp only [List.all_cons, Bool.and_eq_true] at hg
    exact start_heapy hs _ (heapy_put h hg.1) hg.2
theorem walk_heapy {nm : List ByteArray} {es : List Ed} : ∀ (f k : Nat) (l : List Sb), Heapy (nm.length : Int) l → Heapy (nm.length : Int) (walkS nm es f k l)
  | 0, _, _, h => h
  | f + 1, k, l, h => by
    rw [walkS]
    split
    · exact walk_heapy f _ _ (heapy_fold _ _ _ h)
    · exact h
theorem states_small {nm : List ByteArray} {np : Int} {es : List Ed} {bs : List (List Int × List Int)} {ss : List Sp} (h : ss.map Sp.body = (statesS nm np es bs).1) : ss.length ≤ 200 ∧ ∀ x ∈ ss, x.h.vs.length ≤ 4 ∧ x.h.zs.length ≤ 6 := by
  have key : (statesS nm np es bs).1.length ≤ 200 ∧ Heapy (nm.length : Int) (statesS nm np es bs).1 := by
    unfold statesS
    split
    · rename_i hg
      split
      · rename_i hl
        exact ⟨hl, walk_heapy _ _ _ (start_heapy _ _ (fun x hx => by simp at hx) hg.2)⟩
      · exact ⟨Nat.zero_le _, fun x hx => by simp at hx⟩
    · exact ⟨Nat.zero_le _, fun x hx => by simp at hx⟩
  refine ⟨by have := key.1; rw [← h] at this; simpa using this, fun x hx => ?_⟩
  have hm : x.body ∈ (statesS nm np es bs).1 := h ▸ List.mem_map_of_mem hx
  have hp := heapB_parts (key.2 _ hm)
  have h1 : x.h.vs.length ≤ 4 := hp.1.2.1
  have h2 : x.h.zs.length ≤ 6 := hp.2.1
  exact ⟨h1, h2⟩
theorem mk_heaps {o lo : Nat} {W : World} {ks : List Hp} {c : Nat} {base : Nat} {e : TypeId} (h : W.ownsRow base e 2 (.slice (some ⟨o, 0, none⟩) ks.length c) ks.length (hpVals ks)) (hi : HeapsIn lo W ks) : HeapsAt W (some ⟨o, 0, none⟩) ks :=
  ⟨Row.ownedN h, fun _ hx => hi.at_ hx⟩
theorem mk_states {lo : Nat} {W : World} {ss : List Sp} {a : Option Addr} {c n : Nat} {base : Nat} {e : TypeId} (h : W.ownsRow base e 3 (.slice a n c) n (spVals ss)) (hi : HeapsIn lo W (ss.map Sp.h)) : StatesAt W a ss :=
  ⟨Row.ownedN h, fun _ hx => hi.at_ (List.mem_map_of_mem hx)⟩

set_option maxRecDepth 100000 in
set_option maxHeartbeats 16000000 in
theorem walk (va : Option Addr) (vc : Nat) (nm : List ByteArray) (np : Int) (ba : Option Addr) (bc : Nat) (es : List Ed) (ha : Option Addr) (hc : Nat) (hs : List Hp) (w : World)
    (hnm : nm.length ≤ maxLen ∧ (∀ s ∈ nm, s.size ≤ maxLen) ∧ Row w w.heap.size va (strVals nm)) (hnp : -9223372036854775808 ≤ np ∧ np ≤ 9223372036854775807) (hes : es.length ≤ maxLen ∧ (∀ x ∈ es, x.Ok) ∧ Row w w.heap.size ba (edVals es))
    (hhl : hs.length ≤ maxLen) (hat : HeapsAt w ha hs) (hok : ∀ x ∈ hs, x.Ok w) (hT : HasNamesTable w) :
    Calls Tryz.prog 5 #[prV va nm.length vc np ba es.length bc, .slice ha hs.length hc] w (TrueEnd w) := by
  have HARG := Lib.hid (show ∀ W, Below w.heap.size w W → (Row W W.heap.size va (strVals nm) ∧ Row W W.heap.size ba (edVals es)) ∧ HeapsAt W ha hs ∧ HasNamesTable W from fun W h => ⟨⟨(hnm.2.2.below h).grow h.size, (hes.2.2.below h).grow h.size⟩, hat.below h, hT.keeps h⟩)
  obtain ⟨W0, hW0, bx0, hb0, hz0⟩ := new_box w [.slice va nm.length vc, .int .i64 np, .slice ba es.length bc] 54
  simp only [List.toArray] at hW0
  have HSS := Lib.hid (And.intro hnm.1 hnm.2.1)
  have HES := Lib.hid hes.2.1
  have hsl := hnm.1
  have hesl := hes.1
  have HLM := Lib.hid (show ∀ x ∈ hs, x.vs.length ≤ maxLen ∧ x.zs.length ≤ maxLen from fun x hx => ⟨(hok x hx).lv, (hok x hx).lz⟩)
  have K0 := Lib.hid (show ∀ W, Below W0.heap.size W0 W → BoxL W w.heap.size [.slice va nm.length vc, .int .i64 np, .slice ba es.length bc] ∧ Below w.heap.size w W from fun W h => ⟨bx0.below h, hb0.trans (h.mono hb0.size)⟩)
  clear hT hat hok hnm hes bx0 hb0 hz0
  unfold maxLen at hsl hesl hhl
  go_enter Tryz.func5, Tryz.ntmps5
  have hk0 := K0.out _ (Below.refl _ _)
  have s0 := hk0.1.c 0 _ rfl
  have s1 := hk0.1.c 1 _ rfl
  have s2 := hk0.1.c 2 _ rfl
  go_wp2_with fail
  try rw [hW0]
  clear hW0
  refine (szProgram va vc nm np ba bc es 1048576 _ (by omega) ⟨HSS.out.1, HSS.out.2, (HARG.out _ hk0.2).1.1⟩ ⟨hesl, HES.out, (HARG.out _ hk0.2).1.2⟩).mono ?_
  rintro e w1 ⟨r, rfl, hb1, hr, hok1⟩
  have K1 := Lib.hid (fun W (h : Below w1.heap.size w1 W) => K0.out W (hb1.trans (h.mono hb1.size)))
  clear s0 s1 s2 hk0 hb1 K0
  by_cases hneg : r < 0
  · go_wp2
    go_ret
    exact ⟨rfl, (K1.out _ (Below.refl _ _)).2⟩
  have hsum := hok1 (by omega)
  obtain ⟨r', rfl⟩ : ∃ r' : Nat, r = (r' : Int) := ⟨r.toNat, by omega⟩
  go_wp2_with fail
  refine (szHeaps ha hc hs r' _ (by omega) hhl HLM.out (HARG.out _ (K1.out _ (Below.refl _ _)).2).2.1).mono ?_
  rintro e w2 ⟨r2, rfl, hb2, hr2, hok2⟩
  have K2 := Lib.hid (fun W (h : Below w2.heap.size w2 W) => K1.out W (hb2.trans (h.mono hb2.size)))
  clear hb2 K1
  by_cases hneg2 : r2 < 0
  · go_wp2
    go_ret
    exact ⟨rfl, (K2.out _ (Below.refl _ _)).2⟩
  have hsum2 := hok2 (by omega)
  have hnat1 : nm.length ≤ 1048576 := by omega
  have hnat2 : es.length ≤ 1048576 := by omega
  have hnat3 : hs.length ≤ 1048576 := by omega
  have hnat4 : hpTotal hs ≤ 1048576 := by omega
  have HLS := Lib.hid (show ∀ x ∈ hs, x.vs.length ≤ 1048576 ∧ x.zs.length ≤ 1048576 from fun x hx => by have := size_le hs x hx; unfold hpSize at this; omega)
  clear hsum hsum2 hok1 hok2 hr hr2 hneg hsl hesl hhl HLM
  obtain ⟨rs, hrs⟩ : ∃ rs, statesS nm np es (hs.map Hp.body) = rs := ⟨_, rfl⟩
  obtain ⟨bl, fl9⟩ := rs
  have HRS := Lib.hid hrs
  have HSM := Lib.hid (show ∀ ss : List Sp, ss.map Sp.body = bl → ss.length ≤ 200 ∧ ∀ x ∈ ss, x.h.vs.length ≤ 4 ∧ x.h.zs.length ≤ 6 from fun ss h => states_small (by rw [hrs]; exact h))
  have HSX := Lib.hid (show ∀ (Y : World) (p1 p2 : Option Addr) (c1 c2 kc : Nat) (p3 : Option Addr) (ks : List Hp) (lo : Nat), ks.map Hp.body = hs.map Hp.body → Row Y Y.heap.size p1 (strVals nm) → Row Y Y.heap.size p2 (edVals es) → HeapsAt Y p3 ks → HeapsIn lo Y ks →
      Calls Tryz.prog 13 #[.agg #[.slice p1 nm.length c1, .int .i64 np, .slice p2 es.length c2], .slice p3 ks.length kc] Y (StatesGot (bl, fl9) Y) from fun Y p1 p2 c1 c2 kc p3 ks lo hb h1 h2 h3 h4 => by
    have hkl : ks.length = hs.length := by simpa using congrArg List.length hb
    refine (specStatesFrom p1 c1 nm np p2 c2 es p3 kc ks Y ⟨HSS.out.1, HSS.out.2, h1⟩ hnp ⟨hnat2, h2⟩ (by omega) h3 (fun x hx => by have := lens_body hb HLS.out x hx; unfold maxLen; omega) (fun x hx => ⟨own_none (h4.each x hx).v.2.1, own_none (h4.each x hx).z.2.1⟩)).mono fun _ _ he => ?_
    rw [hb, hrs] at he
    exact he)
  have HIX := Lib.hid (show ∀ (Y : World) (p1 p2 : Option Addr) (c1 c2 kc : Nat) (p3 : Option Addr) (ks : List Hp) (lo : Nat), ks.map Hp.body = hs.map Hp.body → Row Y Y.heap.size p1 (strVals nm) → Row Y Y.heap.size p2 (edVals es) → HeapsAt Y p3 ks → HeapsIn lo Y ks → HasNamesTable Y →
      Calls Tryz.prog 12 #[.agg #[.slice p1 nm.length c1, .int .i64 np, .slice p2 es.length c2], .slice p3 ks.length kc] Y (StatesMade (bl, fl9) Y) from fun Y p1 p2 c1 c2 kc p3 ks lo hb h1 h2 h3 h4 hT => by
    have hkl : ks.length = hs.length := by simpa using congrArg List.length hb
    refine (implStatesFrom p1 c1 nm np p2 c2 es p3 kc ks Y ⟨HSS.out.1, HSS.out.2, h1⟩ ⟨hnat2, h2⟩ hT (by omega) h3 (fun x hx => by have := lens_body hb HLS.out x hx; unfold maxLen; omega)).mono fun _ _ he => ?_
    rw [hb, hrs] at he
    exact he)
  clear hrs hnp HSS HES
  have hk2 := K2.out _ (Below.refl _ _)
  have s0 := hk2.1.c 0 _ rfl
  have s1 := hk2.1.c 1 _ rfl
  have s2 := hk2.1.c 2 _ rfl
  go_wp2_with fail
  refine (toProgram va vc nm np ba bc es _ (by omega) (by omega) (HARG.out _ hk2.2).1.1 (HARG.out _ hk2.2).1.2).mono ?_
  rintro e w3 ⟨f1, f2, rfl, _, _, hf1, hf2, hb3⟩
  have hk3 := K2.out _ hb3
  have HF3 := Lib.hid (And.intro hf1 hf2)
  clear s0 s1 s2 hk2 hf1 hf2
  go_wp2_with fail
  refine (toHeaps ha hc hs _ (by omega) (fun x hx => by have := HLS.out x hx; omega) (HARG.out _ hk3.2).2.1).mono ?_
  rintro e w4 ⟨k1, hk1b, rfl, ho4, hi4, hb4⟩
  have hk1l : k1.length = hs.length := by simpa using congrArg List.length hk1b
  have HHA := Lib.hid (mk_heaps ho4 hi4)
  have HHI := Lib.hid hi4
  have HK1B := Lib.hid hk1b
  have HF4 := Lib.hid (And.intro (own_keeps HF3.out.1 hb4) (own_keeps HF3.out.2 hb4))
  have hb34 := hb3.trans (hb4.mono hb3.size)
  have HB34 := Lib.hid hb34
  clear hk3 ho4 hi4 hb3 hb4 hb34 HF3 hk1b hk1l
  go_wp2_with fail
  refine (HSX.out _ _ _ _ _ _ _ k1 _ HK1B.out (Row.owned HF4.out.1) (Row.ownedN HF4.out.2) HHA.out HHI.out).mono ?_
  rintro e w5 ⟨pa, pc, sp, rfl, hspb, hsp, hb5⟩
  have hsps := HSM.out _ hspb
  have hspl := hsps.1
  have HSP := Lib.hid hspb
  have HSPL := Lib.hid hsps.2
  have hb25 := HB34.out.trans (hb5.mono HB34.out.size)
  have K5 := Lib.hid (show ∀ W, Below w5.heap.size w5 W → (BoxL W w.heap.size [.slice va nm.length vc, .int .i64 np, .slice ba es.length bc] ∧ Below w.heap.size w W) ∧ StatesAt W pa sp from fun W h => ⟨K2.out W (hb25.trans (h.mono hb25.size)), hsp.below h⟩)
  clear hspb hsps hsp hb5 hb25 HB34 HHA HHI HK1B HF4 K2
  have hk5 := (K5.out _ (Below.refl _ _)).1
  have s0 := hk5.1.c 0 _ rfl
  have s1 := hk5.1.c 1 _ rfl
  have s2 := hk5.1.c 2 _ rfl
  go_wp2_with fail
  refine (toProgram va vc nm np ba bc es _ (by omega) (by omega) (HARG.out _ hk5.2).1.1 (HARG.out _ hk5.2).1.2).mono ?_
  rintro e w6 ⟨g1, g2, rfl, hg1, hg2, ho1, ho2, hb6⟩
  obtain ⟨W6, hW6, bx6, hal6, hz6⟩ := new_box w6 [.slice (some ⟨g1, 0, none⟩) nm.length nm.length, .int .i64 np, .slice (some ⟨g2, 0, none⟩) es.length es.length] 27
  simp only [List.toArray] at hW6
  have hs6 : w5.heap.size ≤ w6.heap.size := hb6.size
  have hg1lt : g1 < w6.heap.size := (ho1.lt g1 rfl).2
  have hg2lt : g2 < w6.heap.size := (ho2.lt g2 rfl).2
  have K6 := Lib.hid (show ∀ W, Below W6.heap.size W6 W → ((OwnIn w5.heap.size w6.heap.size W 9 1 (.slice (some ⟨g1, 0, none⟩) nm.length nm.length) nm.length (strVals nm) ∧ OwnIn w5.heap.size w6.heap.size W 85 5 (.slice (some ⟨g2, 0, none⟩) es.length es.length) es.length (edVals es)) ∧ BoxL W w6.heap.size [.slice (some ⟨g1, 0, none⟩) nm.length nm.length, .int .i64 np, .slice (some ⟨g2, 0, none⟩) es.length es.length]) ∧ Below w5.heap.size w5 W from fun W hb =>
    ⟨⟨⟨(((OwnIn.of ho1).mono hg1 (Nat.le_refl _) (Nat.le_refl _)).below hal6).below hb, (((OwnIn.of ho2).mono (Nat.le_trans hg1 (Nat.le_of_lt hg2)) (Nat.le_refl _) (Nat.le_refl _)).below hal6).below hb⟩, bx6.below hb⟩, (hb6.trans (hal6.mono hb6.size)).trans (hb.mono (Nat.le_trans hb6.size hal6.size))⟩)
  clear s0 s1 s2 hk5 bx6 ho1 ho2
  go_wp2_with fail
  clear hW6 hal6 hb6
  refine (toHeaps ha hc hs _ (by omega) (fun x hx => by have := HLS.out x hx; omega) (HARG.out _ (K5.out _ (K6.out _ (Below.refl _ _)).2).1.2).2.1).mono ?_
  rintro e w7 ⟨ks, hksb, rfl, ho7, hi7, hb7⟩
  have hkl : ks.length = hs.length := by simpa using congrArg List.length hksb
  have hkt := total_body ks hs hksb
  have HKSB := Lib.hid hksb
  have HKL := Lib.hid hkl
  have hs7 : W6.heap.size ≤ w7.heap.size := hb7.size
  have ho7l : W6.heap.size < w7.heap.size := (ho7.lt _ rfl).2
  have HKH := Lib.hid (show ∀ k, hasAny ks k → W6.heap.size + 1 ≤ k ∧ k < w7.heap.size from fun k ⟨x, hx, hk⟩ => hi7.has_lt hx hk)
  have K7 := Lib.hid (show ∀ W, Below w7.heap.size w7 W → (W.ownsRow W6.heap.size 30 2 (.slice (some ⟨W6.heap.size, 0, none⟩) ks.length ks.length) ks.length (hpVals ks) ∧ HeapsIn (W6.heap.size + 1) W ks) ∧ Below W6.heap.size W6 W from fun W hb => ⟨⟨own_keeps ho7 hb, hi7.below hb⟩, hb7.trans (hb.mono hb7.size)⟩)
  clear ho7 hi7 hb7 hksb hkl
  have h7 := K7.out _ (Below.refl _ _)
  have h6 := K6.out _ h7.2
  have x0 := h6.1.2.c 0 _ rfl
  have x1 := h6.1.2.c 1 _ rfl
  have x2 := h6.1.2.c 2 _ rfl
  have HH7 := Lib.hid h7.1
  have HH6 := Lib.hid h6.1.1
  have HT7 := Lib.hid (HARG.out _ (K5.out _ h6.2).1.2).2.2
  clear h7 h6
  go_wp2_with fail
  refine (HIX.out _ _ _ _ _ _ _ ks _ HKSB.out HH6.out.1.row (Row.ownedN HH6.out.2.2.1) (mk_heaps HH7.out.1 HH7.out.2) HH7.out.2 HT7.out).mono ?_
  rintro e w8 ⟨v8, ss, rfl, hssb, ho8, hi8, hoff, hb8⟩
  obtain ⟨ga, gc, rfl⟩ := own_form ho8
  have hsss := HSM.out _ hssb
  have hssl := hsss.1
  have hsst := total_small ss hsss.2
  have HSSB := Lib.hid (show sp.map Sp.body = ss.map Sp.body from HSP.out.trans hssb.symm)
  have HSSL := Lib.hid hsss.2
  have HOFF := Lib.hid hoff
  have hs8 : w7.heap.size ≤ w8.heap.size := hb8.size
  have HGH := Lib.hid (show ∀ k, allOf ga ss.length gc ss k → w7.heap.size ≤ k ∧ k < w8.heap.size from fun k hk => by
    rcases hk with hk | ⟨x, hx, hk⟩
    · exact ho8.lt k hk
    · exact hi8.has_lt hx hk)
  have K8 := Lib.hid (show ∀ W, Below w8.heap.size w8 W → (W.ownsRow w7.heap.size 34 3 (.slice ga ss.length gc) ss.length (spVals ss) ∧ HeapsIn w7.heap.size W (ss.map Sp.h)) ∧ Below w7.heap.size w7 W from fun W hb => ⟨⟨own_keeps ho8 hb, hi8.below hb⟩, hb8.trans (hb.mono hb8.size)⟩)
  clear x0 x1 x2 HH7 HH6 HT7 hssb ho8 hi8 hoff hb8 hsss
  have A8 := Lib.hid (show ∀ W, Below w8.heap.size w8 W → ((BoxL W w.heap.size [.slice va nm.length vc, .int .i64 np, .slice ba es.length bc] ∧ Below w.heap.size w W) ∧ StatesAt W pa sp) ∧
      (((OwnIn w5.heap.size w6.heap.size W 9 1 (.slice (some ⟨g1, 0, none⟩) nm.length nm.length) nm.length (strVals nm) ∧ OwnIn w5.heap.size w6.heap.size W 85 5 (.slice (some ⟨g2, 0, none⟩) es.length es.length) es.length (edVals es)) ∧ BoxL W w6.heap.size [.slice (some ⟨g1, 0, none⟩) nm.length nm.length, .int .i64 np, .slice (some ⟨g2, 0, none⟩) es.length es.length]) ∧ Below w5.heap.size w5 W) ∧
      (W.ownsRow W6.heap.size 30 2 (.slice (some ⟨W6.heap.size, 0, none⟩) ks.length ks.length) ks.length (hpVals ks) ∧ HeapsIn (W6.heap.size + 1) W ks) ∧
      (W.ownsRow w7.heap.size 34 3 (.slice ga ss.length gc) ss.length (spVals ss) ∧ HeapsIn w7.heap.size W (ss.map Sp.h)) ∧ w8.heap.size ≤ W.heap.size from fun W hb => by
    have h8 := K8.out W hb
    have h7 := K7.out W h8.2
    have h6 := K6.out W h7.2
    exact ⟨K5.out W h6.2, h6, h7.1, h8.1, hb.size⟩)
  clear K6 K7 K8
  have HEQ := Lib.hid (show ∀ (W : World) (a : Option Addr) (c : Nat) (ts : List Sp), ts.map Sp.body = bl → StatesAt W a ts → StatesAt W pa sp → Calls Tryz.prog 38 #[.slice a ts.length c, .slice pa sp.length pc] W (GaveX (.bool true) W) from fun W a c ts hb h1 h2 =>
    eqStateRows a pa c pc ts sp W (by have := (HSM.out _ hb).1; unfold maxLen; omega) (fun x hx => by have := (HSM.out _ hb).2 x hx; unfold maxLen; omega) (HSP.out.trans hb.symm) h1 h2)
  have h8 := A8.out _ (Below.refl _ _)
  have HG8 := Lib.hid (mk_states h8.2.2.2.1.1 h8.2.2.2.1.2)
  have HP8 := Lib.hid h8.1.2
  clear h8
  go_wp2_with fail
  refine (HEQ.out _ _ _ ss (HSSB.out.symm.trans HSP.out) HG8.out HP8.out).mono ?_
  rintro e w16 ⟨rfl, hb16⟩
  have A16 := Lib.hid (fun W (hb : Below w16.heap.size w16 W) => A8.out W (hb16.trans (hb.mono hb16.size)))
  clear HG8 HP8 hb16 A8
  have H16 := Lib.hid (show ∀ W, Below w16.heap.size w16 W → (W.cell? ⟨w6.heap.size, 0, none⟩ = some (.slice (some ⟨g1, 0, none⟩) nm.length nm.length) ∧ W.cell? ⟨w6.heap.size, 1, none⟩ = some (.int .i64 np) ∧ W.cell? ⟨w6.heap.size, 2, none⟩ = some (.slice (some ⟨g2, 0, none⟩) es.length es.length)) ∧ (W.cell? ⟨w.heap.size, 0, none⟩ = some (.slice va nm.length vc) ∧ W.cell? ⟨w.heap.size, 1, none⟩ = some (.int .i64 np) ∧ W.cell? ⟨w.heap.size, 2, none⟩ = some (.slice ba es.length bc)) from fun W hb => ⟨let h := (A16.out W hb).2.1.1.2; ⟨h.c 0 _ rfl, h.c 1 _ rfl, h.c 2 _ rfl⟩, let h := (A16.out W hb).1.1.1; ⟨h.c 0 _ rfl, h.c 1 _ rfl, h.c 2 _ rfl⟩⟩)
  have HEP := Lib.hid (fun (W : World) (hb : Below w16.heap.size w16 W) (g5 g6 d5 d6 : Nat) (h5 : W.ownsRow d5 9 1 (.slice (some ⟨g5, 0, none⟩) nm.length nm.length) nm.length (strVals nm)) (h6 : W.ownsRow d6 85 5 (.slice (some ⟨g6, 0, none⟩) es.length es.length) es.length (edVals es)) =>
    eqProgramSame (some ⟨g1, 0, none⟩) (some ⟨g2, 0, none⟩) (some ⟨g5, 0, none⟩) (some ⟨g6, 0, none⟩) nm.length es.length nm.length es.length nm np es W (by unfold maxLen; omega) (by unfold maxLen; omega) (A16.out _ hb).2.1.1.1.1.row (Row.ownedN (A16.out _ hb).2.1.1.1.2.2.1) (Row.owned h5) (Row.ownedN h6))
  have hD : Below w16.heap.size w16 w16.drew := Below.drew (Below.refl _ _)
  go_wp2
  go_region_held3 (fun W => (W.cell? ⟨w6.heap.size, 0, none⟩ = some (.slice (some ⟨g1, 0, none⟩) nm.length nm.length) ∧ W.cell? ⟨w6.heap.size, 1, none⟩ = some (.int .i64 np) ∧ W.cell? ⟨w6.heap.size, 2, none⟩ = some (.slice (some ⟨g2, 0, none⟩) es.length es.length)) ∧ (W.cell? ⟨w.heap.size, 0, none⟩ = some (.slice va nm.length vc) ∧ W.cell? ⟨w.heap.size, 1, none⟩ = some (.int .i64 np) ∧ W.cell? ⟨w.heap.size, 2, none⟩ = some (.slice ba es.length bc)))
    (first | exact H16.out _ hD | exact H16.out _ (Below.drew hD) | exact H16.out _ H7 | exact H16.out _ H8)
    (first
      | (go_at_call 24; (with_reducible refine (toProgram va vc nm np ba bc es _ (by omega) (by omega) (HARG.out _ (A16.out _ hD).1.1.2).1.1 (HARG.out _ (A16.out _ hD).1.1.2).1.2).mono ?_); rintro e w17 ⟨g5, g6, rfl, hg5, hg6, ho5, ho6', hb17⟩; have H7 := hD.trans (hb17.mono hD.size))
      | (go_at_call 28; (refine (HEP.out _ H7 _ _ _ _ ho5 ho6').mono ?_); rintro e w18 ⟨rfl, hb18⟩; have H8 := H7.trans (hb18.mono H7.size)))
  have A18 := Lib.hid (fun W (hb : Below w18.heap.size w18 W) => A16.out W (H8.trans (hb.mono H8.size)))
  clear hb17 hb18 H7 H8 hD H16 ho5 ho6' hg5 hg6 A16 HEP
  have hA18 := (A18.out _ (Below.refl _ _)).1.1.2
  go_wp2_with fail
  refine (toHeaps ha hc hs _ (by omega) (fun x hx => by have := HLS.out x hx; omega) (HARG.out _ hA18).2.1).mono ?_
  rintro e w19 ⟨k9, hk9b, rfl, ho9, hi9, hb9⟩
  have h19 := (A18.out _ hb9).2.2.1
  have HR19 := Lib.hid (And.intro (mk_heaps h19.1 h19.2) (mk_heaps ho9 hi9))
  have HK9 := Lib.hid (hk9b.trans HKSB.out.symm)
  have A19 := Lib.hid (fun W (hb : Below w19.heap.size w19 W) => A18.out W (hb9.trans (hb.mono hb9.size)))
  clear hA18 h19 ho9 hi9 hb9 hk9b A18
  go_wp2_with fail
  refine (eqHeapRows _ _ _ _ ks k9 _ (by have := HKL.out; unfold maxLen; omega) (fun x hx => by have := lens_body HKSB.out HLS.out x hx; unfold maxLen; omega) HK9.out HR19.out.1 HR19.out.2).mono ?_
  rintro e w22 ⟨rfl, hb22⟩
  have h22 := A19.out _ hb22
  have HA := Lib.hid h22
  have x0 := h22.2.1.1.2.c 0 _ rfl
  have x1 := h22.2.1.1.2.c 1 _ rfl
  have x2 := h22.2.1.1.2.c 2 _ rfl
  have HGT := Lib.hid (show ∀ j, (Value.slice (some ⟨g1, 0, none⟩) nm.length nm.length).ownBlock = some j → (Value.slice (some ⟨g2, 0, none⟩) es.length es.length).ownBlock ≠ some j from fun j h1 h2 => by
    have e1 : g1 = j := Option.some.inj h1
    have e2 : g2 = j := Option.some.inj h2
    omega)
  clear h22 hb22 HR19 HK9 A19
  go_wp2_with fail
  refine (markProgram w5.heap.size w5.heap.size 1 nm.length es.length _ _ _ _ _ _ np _ (by omega) (by omega) (by omega) HA.out.2.1.1.1.1.2.1 HA.out.2.1.1.1.2.2.1 HGT.out).mono ?_
  rintro e w23 ⟨rfl, _, _, hmz, hmo, hmt, hmp, hmb⟩
  have t23 : Turn w5.heap.size w6.heap.size w22 w23 := ⟨hmo, hmt, hmp, hmz, fun j hj hd => hmb j hj (fun h => by have e1 : g1 = j := Option.some.inj h; omega) (fun h => by have e1 : g2 = j := Option.some.inj h; omega)⟩
  have hz22 : w8.heap.size ≤ w22.heap.size := HA.out.2.2.2.2
  have HB23 := Lib.hid (t23.below HA.out.2.1.2 (Nat.le_refl _) (by omega))
  have HG23 := Lib.hid (own_turn HA.out.2.2.2.1.1 t23 (fun k hk => .inr (by have := HGH.out k (.inl hk); omega)))
  have HS23 := Lib.hid (in_turn HA.out.2.2.2.1.2 t23 (fun k hk => .inr (by have := HGH.out k (.inr hk); omega)))
  have HR23 := Lib.hid (row_turn (Row.ownedN HA.out.2.2.1.1) t23 (.inr (by omega)))
  have HI23 := Lib.hid (in_turn HA.out.2.2.1.2 t23 (fun k hk => .inr (by have := HKH.out k hk; omega)))
  clear x0 x1 x2 hmz hmo hmt hmp hmb t23 HA HGT
  go_wp2_with fail
  refine (markHeapRows (W6.heap.size + 1) (1 + nm.length + es.length * 5) _ _ ks _ (by have := HKL.out; omega) (by omega) HR23.out (fun b o hbo => by
    injection hbo with hbo
    injection hbo with e1 _ _
    subst e1
    exact fun hk => by have := HKH.out _ hk; omega) HI23.out).mono ?_
  rintro e w24 ⟨rfl, _, hon24⟩
  have t24 : Turn (W6.heap.size + 1) w7.heap.size w23 w24 := turn_only hon24 HKH.out
  have HB24 := Lib.hid (t24.below HB23.out (by omega) HB23.out.size)
  have HG24 := Lib.hid (own_turn HG23.out t24 (fun k hk => .inr (by have := HGH.out k (.inl hk); omega)))
  have HS24 := Lib.hid (in_turn HS23.out t24 (fun k hk => .inr (by have := HGH.out k (.inr hk); omega)))
  have hq24 : ¬ (((1 + nm.length + es.length * 5 + hpTotal ks : Nat) : Int) < 0) := by omega
  clear hon24 t24 HB23 HG23 HS23 HR23 HI23
  go_wp2_with fail
  refine (HEQ.out _ _ _ ss (HSSB.out.symm.trans HSP.out) (mk_states HG24.out HS24.out) (K5.out _ HB24.out).2).mono ?_
  rintro e w25 ⟨rfl, hb25⟩
  have HB25 := Lib.hid (HB24.out.trans (hb25.mono HB24.out.size))
  have HG25 := Lib.hid (own_keeps HG24.out hb25)
  have HS25 := Lib.hid (HS24.out.below hb25)
  clear hb25 HB24 HG24 HS24
  go_wp2_with fail
  refine (markStateRows w7.heap.size 1 ga gc ss _ (by omega) (by omega) HG25.out HOFF.out HS25.out).mono ?_
  rintro e w26 ⟨rfl, hm1, hm2, hon26⟩
  have t26 : Turn w7.heap.size w8.heap.size w25 w26 := turn_only hon26 HGH.out
  have HB26 := Lib.hid (t26.below HB25.out (by omega) HB25.out.size)
  have HM26 := Lib.hid (mk_states hm1 hm2)
  have hq26 : ¬ (((1 + spTotal ss : Nat) : Int) < 0) := by omega
  clear hq24 hm1 hm2 hon26 t26 HB25 HG25 HS25
  go_wp2_with fail
  refine (heldStateRows 1 ga gc ss _ (by omega) (by omega) HM26.out).mono ?_
  rintro e w27 ⟨rfl, hb27⟩
  have HB27 := Lib.hid (HB26.out.trans (hb27.mono HB26.out.size))
  have HM27 := Lib.hid (HM26.out.below hb27)
  have hk27 := (K5.out _ HB27.out).1
  have s0 := hk27.1.c 0 _ rfl
  have s1 := hk27.1.c 1 _ rfl
  have s2 := hk27.1.c 2 _ rfl
  clear hb27 HB26 HM26
  go_wp2_with fail
  refine (toProgram va vc nm np ba bc es _ (by omega) (by omega) (HARG.out _ hk27.2).1.1 (HARG.out _ hk27.2).1.2).mono ?_
  rintro e w28 ⟨f5, f6, rfl, _, _, hf5, hf6, hb28⟩
  have HB28 := Lib.hid (HB27.out.trans (hb28.mono HB27.out.size))
  have HM28 := Lib.hid (HM27.out.below hb28)
  have HF28 := Lib.hid (And.intro hf5 hf6)
  have hk28 := (K5.out _ HB28.out).1.2
  clear s0 s1 s2 hk27 hf5 hf6 hb28 HB27 HM27
  go_wp2_with fail
  refine (toHeaps ha hc hs _ (by omega) (fun x hx => by have := HLS.out x hx; omega) (HARG.out _ hk28).2.1).mono ?_
  rintro e w29 ⟨k5, hk5b, rfl, ho29, hi29, hb29⟩
  have HB29 := Lib.hid (HB28.out.trans (hb29.mono HB28.out.size))
  have HM29 := Lib.hid (HM28.out.below hb29)
  have HF29 := Lib.hid (And.intro (own_keeps HF28.out.1 hb29) (own_keeps HF28.out.2 hb29))
  have HH29 := Lib.hid (mk_heaps ho29 hi29)
  have HI29 := Lib.hid hi29
  have HK5B := Lib.hid hk5b
  have HT29 := Lib.hid (HARG.out _ (K5.out _ HB29.out).1.2).2.2
  clear hk28 ho29 hi29 hb29 hk5b HB28 HM28 HF28
  go_wp2_with fail
  refine (HIX.out _ _ _ _ _ _ _ k5 _ HK5B.out (Row.owned HF29.out.1) (Row.ownedN HF29.out.2) HH29.out HI29.out HT29.out).mono ?_
  rintro e w30 ⟨v30, tt, rfl, httb, ho30, hi30, _, hb30⟩
  obtain ⟨ta, tc, rfl⟩ := own_form ho30
  have HB30 := Lib.hid (HB29.out.trans (hb30.mono HB29.out.size))
  have HM30 := Lib.hid (HM29.out.below hb30)
  have HT30 := Lib.hid (mk_states ho30 hi30)
  have HTTB := Lib.hid httb
  clear ho30 hi30 hb30 httb HB29 HM29 HF29 HH29 HI29 HT29
  go_wp2_with fail
  refine (HEQ.out _ _ _ tt HTTB.out HT30.out (K5.out _ HB30.out).2).mono ?_
  rintro e w31 ⟨rfl, hb31⟩
  have HB31 := Lib.hid (HB30.out.trans (hb31.mono HB30.out.size))
  have HM31 := Lib.hid (HM30.out.below hb31)
  clear hb31 HB30 HM30 HT30
  go_wp2_with fail
  refine (heldStateRows 1 ga gc ss _ (by omega) (by omega) HM31.out).mono ?_
  rintro e w32 ⟨rfl, hb32⟩
  have HB32 := Lib.hid (HB31.out.trans (hb32.mono HB31.out.size))
  clear hb32 HB31 HM31
  go_wp2
  go_ret
  exact ⟨rfl, (K5.out _ HB32.out).1.2⟩
end Go.Proofs.YtpmmjaceehlpiaaGreatDoor.exactStatesFrom
