/-
  Proved: for every two numbers the law FnExactSmallHeaps returns true. No condition beyond the given row's own.
-/
import Derived.Test.YtpmmjaceehlpiaaImplSmall
import Derived.Test.YtpmmjaceehlpiaaHeapMarks
import Derived.Test.YtpmmjaceehlpiaaRows
import Derived.ChangeMaps5
import Derived.LaidLaws
namespace Go.Proofs.Ytpmmjaceehlpiaa
open Go Go.RowKit Go.ChangeShapes Go.WideShapes Go.ChangeAt

theorem small_each {v c : Int} {b : List Int × List Int} (h : b ∈ smallS v c) : b.1.length ≤ 4 ∧ b.2.length ≤ 6 := by
  unfold smallS at h
  split at h
  · obtain ⟨n, _, h⟩ := List.mem_flatMap.1 h
    obtain ⟨hd, _, h⟩ := List.mem_flatMap.1 h
    obtain ⟨z, _, h⟩ := List.mem_flatMap.1 h
    split at h
    · next hp =>
      rw [List.mem_singleton.1 h]
      simp only [heapB, Bool.and_eq_true, decide_eq_true_eq] at hp
      obtain ⟨⟨⟨h1, _⟩, _⟩, _⟩ := hp
      exact ⟨by show hd.length ≤ 4; omega, by show z.length ≤ 6; omega⟩
    · simp at h
  · simp at h
theorem small_count (v c : Int) : (smallS v c).length ≤ 400000 := by
  unfold smallS
  split
  · next h => exact sizes_len (c := c.toNat) (by omega) (by omega) (Nat.le_refl _)
  · simp
theorem hpTotal_le {hs : List Hp} (h : ∀ x ∈ hs, x.vs.length ≤ 4 ∧ x.zs.length ≤ 6) : hpTotal hs ≤ hs.length * 10 := by
  induction hs with
  | nil => simp [hpTotal]
  | cons x hs ih =>
    have h1 := h x List.mem_cons_self
    have h2 := ih fun y hy => h y (List.mem_cons_of_mem _ hy)
    rw [hpTotal_cons, List.length_cons]
    unfold hpSize
    omega
theorem own_only {W W' : World} {base e size n : Nat} {v : Value} {xs : List Value} (h : W.ownsRow base e size v n xs) (hz : W.heap.size ≤ W'.heap.size) (hb : ∀ k, v.ownBlock = some k → W'.heap[k]? = W.heap[k]?) : W'.ownsRow base e size v n xs := ((OwnIn.of h).same hz hb).2.1
section
variable {base : Nat} {bs : List (List Int × List Int)} {a : Option Addr} {c n : Nat} {v : Value} {wr wr' : World} {hs : List Hp}
theorem MadeH.only {S : Nat → Prop} (h : MadeH base bs v wr hs) (t : Only S wr wr') (hd : ∀ k, v.ownBlock = some k ∨ hasAny hs k → ¬ S k) : MadeH base bs v wr' hs :=
  ⟨h.body, own_only h.own t.size fun k hk => t.block k (h.own.lt k hk).2 (hd k (.inl hk)), h.ins.same t.size fun x hx k hk => t.block k (h.ins.has_lt hx hk).2 (hd k (.inr ⟨x, hx, hk⟩)), h.off⟩
theorem MadeH.at_ (h : MadeH base bs (.slice a hs.length c) wr hs) : HeapsAt wr a hs := ⟨(OwnIn.of h.own).row, fun _ hx => h.ins.at_ hx⟩
theorem MadeH.form (h : MadeH base bs v wr hs) : ∃ a c, v = .slice a hs.length c := own_shape2 h.own
theorem MadeH.blk (h : MadeH base bs v wr hs) {k : Nat} (hk : v.ownBlock = some k ∨ hasAny hs k) : base ≤ k ∧ k < wr.heap.size := by
  rcases hk with hk | ⟨x, hx, hk⟩
  · exact h.own.lt k hk
  · exact h.ins.has_lt hx hk
theorem MadeH.lens (h : MadeH base bs v wr hs) (hb : ∀ b ∈ bs, b.1.length ≤ 4 ∧ b.2.length ≤ 6) : ∀ x ∈ hs, x.vs.length ≤ 4 ∧ x.zs.length ≤ 6 := fun x hx => hb x.body (by rw [← h.body]; exact List.mem_map_of_mem hx)
end
theorem gave_made {bs : List (List Int × List Int)} {w w' : World} {e : Ending} (h : GaveHeaps bs w e w') : GaveMade bs w e w' := by
  obtain ⟨g, cap, hs, hb, rfl, ho, hi, hoff, hbl⟩ := h
  exact ⟨_, hs, rfl, ⟨hb, ho, hi, fun k hk x hx => by rw [← Option.some.inj hk]; exact hoff x hx⟩, hbl⟩
namespace exactSmallHeaps
/-- The law said true, and nothing old has turned. -/
def TrueEnd (w : World) (e : Ending) (w' : World) : Prop := e = .returned (.bool true) ∧ Below w.heap.size w w'
set_option maxRecDepth 100000 in
set_option maxHeartbeats 1600000 in
theorem walk (v c : Int) (w : World) (_ : -9223372036854775808 ≤ v) (_ : v ≤ 9223372036854775807) (_ : -9223372036854775808 ≤ c) (_ : c ≤ 9223372036854775807) :
    Calls Try.prog 3 #[.int .i64 v, .int .i64 c] w (TrueEnd w) := by
  have hcount := small_count v c
  have heach : ∀ b ∈ smallS v c, b.1.length ≤ 4 ∧ b.2.length ≤ 6 := fun b hb => small_each hb
  obtain ⟨bs, hbs⟩ : ∃ bs, smallS v c = bs := ⟨_, rfl⟩
  rw [hbs] at hcount heach
  have HBS := Lib.hid hbs
  have HEACH := Lib.hid heach
  clear hbs heach
  go_enter Try.func3, Try.ntmps3
  go_wp2_with fail
  refine (specSmall v c _).mono ?_
  rw [HBS.out]
  rintro e w1 h1
  obtain ⟨u1, hs1, rfl, hM1, hb1⟩ := gave_made h1
  obtain ⟨a1, c1, rfl⟩ := hM1.form
  have hL1 := hM1.lens HEACH.out
  have hn1 : hs1.length ≤ 400000 := by have := congrArg List.length hM1.body; rw [List.length_map] at this; omega
  have HB1 := Lib.hid hb1
  have HM1 := Lib.hid hM1
  clear h1 hb1 hM1
  go_wp2_with fail
  refine (implSmall v c _).mono ?_
  rw [HBS.out]
  rintro e w2 ⟨u2, hs2, rfl, hM2, hb2⟩
  obtain ⟨a2, c2, rfl⟩ := hM2.form
  have hL2 := hM2.lens HEACH.out
  have hn2 : hs2.length ≤ 400000 := by have := congrArg List.length hM2.body; rw [List.length_map] at this; omega
  have ht2 := hpTotal_le hL2
  have hM12 := HM1.out.below hb2
  have hbd : ∀ hs3 : List Hp, hs3.map Hp.body = bs → hs1.map Hp.body = hs3.map Hp.body := fun hs3 h => HM1.out.body.trans h.symm
  have hml : ∀ x ∈ hs2, x.vs.length ≤ maxLen ∧ x.zs.length ≤ maxLen := fun x hx => by have := hL2 x hx; unfold maxLen; omega
  have HMX := Lib.hid hml
  have HBD := Lib.hid hbd
  have HB2 := Lib.hid (HB1.out.trans (hb2.mono HB1.out.size))
  have HM2 := Lib.hid hM2
  have hz12 := hb2.size
  have hblk1 : ∀ k, (Value.slice a1 hs1.length c1).ownBlock = some k ∨ hasAny hs1 k → k < w1.heap.size := fun k hk => (HM1.out.blk hk).2
  have hblk2 : ∀ k, (Value.slice a2 hs2.length c2).ownBlock = some k ∨ hasAny hs2 k → w1.heap.size ≤ k := fun k hk => (HM2.out.blk hk).1
  have HK1 := Lib.hid hblk1
  have HK2 := Lib.hid hblk2
  clear hM2 hb2 hbd hml hL1 hL2 hblk1 hblk2
  go_wp2_with fail
  refine (eqHeapRows a2 a1 c2 c1 hs2 hs1 _ (by unfold maxLen; omega) HMX.out (HBD.out _ HM2.out.body) HM2.out.at_ hM12.at_).mono ?_
  rintro e w3 ⟨rfl, hb3⟩
  have HM13 := Lib.hid (hM12.below hb3)
  have HM23 := Lib.hid (HM2.out.below hb3)
  have HB3 := Lib.hid (HB2.out.trans (hb3.mono HB2.out.size))
  clear hM12 hb3
  go_wp2_with fail
  refine (markHeapRows w1.heap.size 1 a2 c2 hs2 _ (by omega) (by omega) HM23.out.at_.row (fun b o e h => by
    obtain ⟨x, hx, hk⟩ := h
    have hf : (Value.slice a2 hs2.length c2).ownBlock = some b := by rw [e]; rfl
    exact HM23.out.off b hf x hx hk) HM23.out.ins).mono ?_
  rintro e w4 ⟨rfl, hin4, ho4⟩
  have HM14 := Lib.hid (HM13.out.only ho4 fun k hk h => by have := HK1.out k hk; have := HK2.out k (.inr h); omega)
  have hown4 : w4.ownsRow w1.heap.size 34 2 (.slice a2 hs2.length c2) hs2.length (hpVals hs2) := own_only HM23.out.own ho4.size fun k hk => ho4.block k (HM23.out.own.lt k hk).2 fun ⟨x, hx, h⟩ => HM23.out.off k hk x hx h
  have hat4 : HeapsAt w4 a2 (markHps 1 hs2) := ⟨by rw [hpVals_marks]; exact (OwnIn.of hown4).row, fun x hx => hin4.at_ hx⟩
  have HAT4 := Lib.hid hat4
  have HB4 := Lib.hid (ho4.below HB3.out HB3.out.size fun k hk => by have := HK2.out k (.inr hk); have := HB1.out.size; omega)
  have hq : ¬ (((1 + hpTotal hs2 : Nat) : Int) < 0) := by omega
  clear hin4 ho4 hown4 hat4
  go_wp2_with fail
  refine (heldHeapRows 1 a2 c2 hs2 _ (by omega) (by omega) HAT4.out).mono ?_
  rintro e w5 ⟨rfl, hb5⟩
  have HM15 := Lib.hid (HM14.out.below hb5)
  have HAT5 := Lib.hid (HAT4.out.below hb5)
  have HB5 := Lib.hid (HB4.out.trans (hb5.mono HB4.out.size))
  clear hb5
  go_wp2_with fail
  refine (implSmall v c _).mono ?_
  rw [HBS.out]
  rintro e w6 ⟨u6, hs6, rfl, hM6, hb6⟩
  obtain ⟨a6, c6, rfl⟩ := hM6.form
  have hL6 := hM6.lens HEACH.out
  have hn6 : hs6.length ≤ 400000 := by have := congrArg List.length hM6.body; rw [List.length_map] at this; omega
  have hml6 : ∀ x ∈ hs6, x.vs.length ≤ maxLen ∧ x.zs.length ≤ maxLen := fun x hx => by have := hL6 x hx; unfold maxLen; omega
  have HMX6 := Lib.hid hml6
  have HM6 := Lib.hid hM6
  have HM16 := Lib.hid (HM15.out.below hb6)
  have HAT6 := Lib.hid (HAT5.out.below hb6)
  have HB6 := Lib.hid (HB5.out.trans (hb6.mono HB5.out.size))
  clear hM6 hb6 hL6 hml6
  go_wp2_with fail
  refine (eqHeapRows a6 a1 c6 c1 hs6 hs1 _ (by unfold maxLen; omega) HMX6.out (HBD.out _ HM6.out.body) HM6.out.at_ HM16.out.at_).mono ?_
  rintro e w7 ⟨rfl, hb7⟩
  have HAT7 := Lib.hid (HAT6.out.below hb7)
  have HB7 := Lib.hid (HB6.out.trans (hb7.mono HB6.out.size))
  clear hb7
  go_wp2_with fail
  refine (heldHeapRows 1 a2 c2 hs2 _ (by omega) (by omega) HAT7.out).mono ?_
  rintro e w8 ⟨rfl, hb8⟩
  have HB8 := Lib.hid (HB7.out.trans (hb8.mono HB7.out.size))
  clear hb8
  go_wp2
  go_ret
  exact ⟨rfl, HB8.out⟩

theorem own : ownKnob Try.prog.godebug = none := by kernel_rfl
theorem laidOut : laidOutB Try.prog = true := by kernel_rfl
set_option maxRecDepth 100000 in
theorem contract (H : Type) (enc : TypeId × Value → H) (W : World) (base : Nat) (args : Array Value) (ds gs : List (DataW H)) (before : List MemPlace)
    (hval : ∀ (j : Nat) t v, Try.f3.params[j]? = some t → args[j]? = some v → Value.okWide Try.prog W .any base t v)
    (hW : DataW.Whole enc Try.prog Try.f3.params.toList Rows.fnExactSmallHeapsSpec.vars false W args.toList ds gs before)
    (_hL : laidMetH Try.prog Rows.fnExactSmallHeapsRow.laid W) (_hSh : W.ShapedOpen Try.prog) :
    Calls Try.prog 3 args W fun e W' => ∃ v, e = .returned v ∧ Rows.fnExactSmallHeapsSpec.post enc Try.prog Try.f3 false true false false W args v W' := by
  have hW' := hW
  obtain ⟨p, q, hA0, hV, rfl, _, _⟩ := hW
  have hA : DataW.TrodAll enc Try.prog W 0 (fun _ => true) true Try.f3.params.toList args.toList ds p := hA0
  rw [Try.params3] at hA hval
  obtain ⟨v0, v1, d0, d1, p0, p1, rfl, rfl, rfl, t0, t1⟩ := trodAll_two hA
  obtain ⟨n0, rfl, _, _, hw0⟩ := open_int Try.underlying3 (hval 0 3 v0 rfl rfl) t0
  have hr0 := i64_bounds hw0
  obtain ⟨n1, rfl, _, _, hw1⟩ := open_int Try.underlying3 (hval 1 3 v1 rfl rfl) t1
  have hr1 := i64_bounds hw1
  refine (walk n0 n1 W hr0.1 hr0.2 hr1.1 hr1.2).mono fun e W' ⟨he, hb⟩ => ?_
  subst he
  exact ⟨_, rfl, law_post laidOut rfl (by kernel_rfl) (by kernel_rfl) Try.underlying4 hW' rfl hb⟩

/-- A world for the witness. -/
noncomputable def start (os : Os) : World := World.holding Try.prog os ⟨#[], #[], []⟩
theorem laid_met (os : Os) : laidMet Try.prog Rows.fnExactSmallHeapsRow.laid ((start os).forCall (fun _ _ => 0) ⟨#[], #[.int .i64 0, .int .i64 0], []⟩).memory :=
  laidMet_of_run' 8 (by kernel_rfl) (by kernel_rfl)
theorem reads (os : Os) {H : Type} (enc : TypeId × Value → H) : ∃ places, DataW.whole enc Try.prog ((start os).forCall (fun _ _ => 0) ⟨#[], #[.int .i64 0, .int .i64 0], []⟩).memory Try.f3.params.toList Rows.fnExactSmallHeapsSpec.vars false #[Value.int .i64 0, .int .i64 0].toList 8 = some ([.lit (.int .i64 0), .lit (.int .i64 0)], [], places) :=
  ⟨[], by kernel_rfl⟩

set_option maxRecDepth 100000 in
theorem lifted (os : Os) (started : os.Started) (H : Type) (enc : TypeId × Value → H) (F : Stop.Interp) :
    ReturnsInHanded {} Try.checked os 3 .any ((OpenSpec.ofChange Rows.fnExactSmallHeapsSpec).preRow enc Try.prog Try.f3 Rows.fnExactSmallHeapsRow.domain false Rows.fnExactSmallHeapsRow.laid) (((OpenSpec.ofChange Rows.fnExactSmallHeapsSpec).at F).post enc Try.prog Try.f3 false true false false) := by
  obtain ⟨places, hx⟩ := reads os enc
  refine returnsInHanded_of_row (C := Try.checked) (s := OpenSpec.ofChange Rows.fnExactSmallHeapsSpec) own started (by kernel_rfl) Try.func3
    (witness_row_at (enc := enc) (C := Try.checked) false (start os) #[.int .i64 0, .int .i64 0] rfl (by kernel_rfl) (by kernel_rfl) (by kernel_rfl)
      (OpenSpec.preRow_of_cond 8 hx (by kernel_rfl) (fun k hk => by cases hk) (by kernel_rfl) (laid_met os))) ?_
  intro W base args ds gs before hval hW _ _ _ hL hSh _
  exact contract H enc W base args ds gs before hval hW hL hSh

theorem said : Rows.FnExactSmallHeapsSaid :=
  OpenClaim.holds_of_cond 3 Try.f3 rfl rfl rfl rfl rfl rfl rfl ⟨rfl, rfl, rfl, rfl, rfl⟩ rfl rfl rfl rfl rfl (by kernel_rfl) Try.func3 (by kernel_rfl)
    (of_decide_eq_true (by kernel_rfl)) (by unfold Func.isWrapper; first | (rw [if_pos (by decide +kernel)]; kernel_rfl) | (rw [if_neg (by decide +kernel)]; exact ⟨rfl, rfl⟩))
    (fun os started H enc _ F => by rw [OpenClaim.pre_eq_preRow]; exact lifted os started H enc F)
#print axioms said
end exactSmallHeaps
end Go.Proofs.Ytpmmjaceehlpiaa
