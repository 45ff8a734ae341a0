/-
  Several texts of one proof in one file, in the order in which they build.
-/
import Derived.Laws.RangeAny
import Derived.Laws.Runes
import Derived.WalkMore
import Derived.RangeFuncRecord
import Derived.Test.YtplchhahjmoodaaGreatDoorZ02
import Derived.Test.YtplchhahjmoodaaGreatDoorZ01
import Derived.Test.YtplchhahjmoodaaGreatDoorZ03
import Derived.Test.YtplchhahjmoodaaGreatDoorZ11
import Derived.Test.YtplchhahjmoodaaGreatDoorZ18
import Derived.Test.YtplchhahjmoodaaGreatDoorZ29
import Derived.Test.YtplchhahjmoodaaGreatDoorZ36
/-
  The program's logicAt: the logic variable whose letter stands at a place of a text, or -1.
-/
namespace Go.Proofs.YtplchhahjmoodaaGreatDoor
open Go Go.RowKit

def logicP (l : List UInt8) (p : Nat) : Int := if h : p < l.length then Lib.indexByte [117, 118, 119, 122] l[p] else -1
set_option maxRecDepth 100000 in
theorem implLogicAt (s : ByteArray) (p : Nat) (w : World) :
    Calls Tryz.prog 135 #[.string s, .int .i64 (p : Int)] w fun e w' => e = .returned (.int .i64 (logicP s.data.toList p)) ∧ w' = w := by
  have hsz : s.data.toList.length = s.size := by simp
  by_cases h : s.size ≤ p
  · have hd : decide ((s.size : Int) ≤ (p : Int)) = true := decide_eq_true (by omega)
    have HF := Lib.hid (show logicP s.data.toList p = -1 by unfold logicP; rw [dif_neg (by omega)])
    clear hsz
    go_enter Tryz.func135, Tryz.ntmps135
    go_wp2_with fail
    go_ret
    exact ⟨by rw [HF.out]; rfl, rfl⟩
  · have hd : decide ((s.size : Int) ≤ (p : Int)) = false := decide_eq_false (by omega)
    have hlt : p < s.size := by omega
    have HF := Lib.hid (show logicP s.data.toList p = Lib.indexByte [117, 118, 119, 122] s[p] by
      unfold logicP
      rw [dif_pos (by omega)]
      rfl)
    have HC := Lib.hid (fun V => Tryz.strings_IndexByte ⟨#[117, 118, 119, 122]⟩ (s[p].toNat : Int) V)
    clear hsz
    go_enter Tryz.func135, Tryz.ntmps135
    go_wp2_with fail
    refine (HC.out _).mono ?_
    rintro e w1 ⟨rfl, rfl⟩
    go_wp2_with fail
    go_ret
    exact ⟨by rw [HF.out]; simp, rfl⟩
end Go.Proofs.YtplchhahjmoodaaGreatDoor
/-
  strings.IndexAny for signs that are ASCII, over any text: the place of the first byte that is one of them. Long texts are the shelf's; short ones are walked here.
-/
namespace Go.Proofs.YtplchhahjmoodaaGreatDoor
open Go Go.RowKit

/-- The place of the first byte for which p holds, or -1. -/
def idxP (p : UInt8 → Bool) (l : List UInt8) : Int :=
  match l.findIdx? p with
  | none => -1
  | some e => (e : Int)
theorem idxP_cons (p : UInt8 → Bool) (b : UInt8) (l : List UInt8) : idxP p (b :: l) = if p b = true then 0 else if idxP p l = -1 then -1 else idxP p l + 1 := by
  unfold idxP
  rw [List.findIdx?_cons]
  by_cases h : p b = true
  · rw [if_pos h, if_pos h]
    rfl
  · rw [if_neg h, if_neg h]
    cases hf : l.findIdx? p with
    | none => rfl
    | some e =>
      show ((e + 1 : Nat) : Int) = if (e : Int) = -1 then -1 else (e : Int) + 1
      rw [if_neg (by omega)]
      rfl
theorem indexAny_idxP (chars : List UInt8) : ∀ l : List UInt8, Lib.indexAny l chars = idxP (fun b => chars.contains b) l
  | [] => rfl
  | b :: l => by
    rw [Lib.indexAny, idxP_cons, indexAny_idxP chars l]
    by_cases h : chars.contains b = true
    · rw [if_pos h, if_pos h]
    · rw [if_neg h, if_neg h]
      simp only [beq_iff_eq]
theorem idxP_hit {p : UInt8 → Bool} : ∀ {l : List UInt8} {k : Nat} (h : k < l.length), (∀ j (hj : j < l.length), j < k → p l[j] = false) → p l[k] = true → idxP p l = (k : Int)
  | b :: l, 0, _, _, hk => by
    rw [idxP_cons, if_pos (show p b = true from hk)]
    rfl
  | b :: l, k + 1, h, hall, hk => by
    have h0 : p b = false := hall 0 (by simp) (by omega)
    have ih := idxP_hit (l := l) (k := k) (by simpa using h) (fun j hj hjk => hall (j + 1) (by simpa using hj) (by omega)) hk
    rw [idxP_cons, if_neg (by simp [h0]), ih, if_neg (by omega)]
    rfl
theorem idxP_none {p : UInt8 → Bool} {l : List UInt8} (h : ∀ j (hj : j < l.length), p l[j] = false) : idxP p l = -1 := by
  unfold idxP
  have : l.findIdx? p = none := by
    rw [List.findIdx?_eq_none_iff]
    intro x hx
    obtain ⟨j, hj, rfl⟩ := List.getElem_of_mem hx
    exact h j hj
  rw [this]
/-- A rune that is no surrogate and in range. -/
def GoodR (r : Int) : Prop := (0 ≤ r ∧ r < 55296) ∨ (57344 ≤ r ∧ r ≤ 1114111)
theorem get_atI (s : ByteArray) (i : Nat) (h : i < s.size) : s.get! i = s[i]'h := by
  simp [ByteArray.get!, h]
  rfl
theorem cont_high {s : ByteArray} {pos k : Nat} (h : (decide (pos + k < s.size) && (s.get! (pos + k)).toNat / 64 == 2) = true) : ∃ hj : pos + k < s.size, 128 ≤ (s[pos + k]'hj).toNat := by
  simp only [Bool.and_eq_true, decide_eq_true_eq, beq_iff_eq] at h
  refine ⟨h.1, ?_⟩
  have := h.2
  rw [get_atI s _ h.1] at this
  omega
set_option maxHeartbeats 1000000 in
theorem decode_good (s : ByteArray) (pos : Nat) (h : pos < s.size) (ha : 128 ≤ (s[pos]'h).toNat) :
    GoodR ((Utf8.decode s pos).1 : Int) ∧ 1 ≤ (Utf8.decode s pos).2 ∧ ∀ j, 1 ≤ j → j < (Utf8.decode s pos).2 → ∃ hj : pos + j < s.size, 128 ≤ (s[pos + j]'hj).toNat := by
  have hn : ¬ (s[pos]'h).toNat < 128 := by omega
  have h256 : (s[pos]'h).toNat < 256 := UInt8.toNat_lt _
  have hbad : GoodR ((Utf8.runeError : Nat) : Int) ∧ 1 ≤ 1 ∧ ∀ j, 1 ≤ j → j < 1 → ∃ hj : pos + j < s.size, 128 ≤ (s[pos + j]'hj).toNat :=
    ⟨.inr ⟨by decide, by decide⟩, Nat.le_refl _, fun j h1 h2 => by omega⟩
  have hg0 : s.get! (pos + 0) = s[pos]'h := get_atI s pos h
  unfold Utf8.decode
  simp only [hg0, hn, if_false]
  split
  · rename_i h1
    rw [Bool.and_eq_true] at h1
    have c1 := cont_high (k := 1) h1.2
    have hx := UInt8.toNat_lt (s.get! (pos + 1))
    split
    · refine ⟨.inl ⟨by omega, by simp only; omega⟩, by simp, fun j hj hj2 => ?_⟩
      simp only at hj2
      obtain rfl : j = 1 := by omega
      exact c1
    · exact hbad
  split
  · rename_i h1
    rw [Bool.and_eq_true, Bool.and_eq_true] at h1
    have c1 := cont_high (k := 1) h1.1.2
    have c2 := cont_high (k := 2) h1.2
    split
    · rename_i hv
      simp only [Bool.and_eq_true, decide_eq_true_eq, Utf8.valid, Bool.or_eq_true] at hv
      refine ⟨?_, by simp, fun j hj hj2 => ?_⟩
      · have hv2 := hv.2
        unfold GoodR
        simp only at hv2 ⊢
        omega
      · simp only at hj2
        rcases (by omega : j = 1 ∨ j = 2) with rfl | rfl
        · exact c1
        · exact c2
    · exact hbad
  split
  · rename_i h1
    rw [Bool.and_eq_true, Bool.and_eq_true, Bool.and_eq_true] at h1
    have c1 := cont_high (k := 1) h1.1.1.2
    have c2 := cont_high (k := 2) h1.1.2
    have c3 := cont_high (k := 3) h1.2
    split
    · rename_i hv
      simp only [Bool.and_eq_true, decide_eq_true_eq, Utf8.valid, Bool.or_eq_true] at hv
      refine ⟨?_, by simp, fun j hj hj2 => ?_⟩
      · have hv2 := hv.2
        unfold GoodR
        simp only at hv2 ⊢
        omega
      · simp only at hj2
        rcases (by omega : j = 1 ∨ j = 2 ∨ j = 3) with rfl | rfl | rfl
        · exact c1
        · exact c2
        · exact c3
    · exact hbad
  · exact hbad
theorem libValidRune (r : Int) (h : GoodR r) (w : World) :
    Calls Tryz.prog 160 #[.int .i32 r] w fun e w' => e = .returned (.bool true) ∧ w' = w := by
  rcases h with ⟨h1, h2⟩ | ⟨h1, h2⟩
  · go_enter Tryz.func160, Tryz.ntmps160
    go_wp2
    go_ret
    exact ⟨rfl, rfl⟩
  · have h3 : ¬ r < 55296 := by omega
    have h4 : 57343 < r := by omega
    have h5 : 0 ≤ r := by omega
    go_enter Tryz.func160, Tryz.ntmps160
    go_wp2
    go_ret
    exact ⟨rfl, rfl⟩
theorem wrap_next {z : Nat} (h : z ≤ 9223372036854775805) : IntKind.i64.wrap ((z : Int) + 1) = (z : Int) + 1 := by
  rw [IntKind.wrap_i64]; omega
theorem indexByte_none {l : List UInt8} {c : UInt8} (h : c ∉ l) : Lib.indexByte l c = -1 := by
  induction l with
  | nil => rfl
  | cons b l ih =>
    simp only [List.mem_cons, not_or] at h
    have hb : (b == c) = false := by simpa using fun e => h.1 e.symm
    rw [Lib.indexByte, hb, ih h.2]
    rfl
/-- A rune that is no ASCII is not in a text that is. -/
def NotThere (w : World) (e : Ending) (w' : World) : Prop := e = .returned (.int .i64 (-1)) ∧ Below w.heap.size w w'
set_option maxRecDepth 100000 in
set_option maxHeartbeats 1600000 in
theorem libIndexRune_error (chars : ByteArray) (hc : ∀ k (h : k < chars.size), (chars[k]'h).toNat < 128) (w : World) (hs : chars.size ≤ 1048576) :
    Calls Tryz.prog 147 #[.string chars, .int .i32 65533] w (NotThere w) := by
  go_enter Tryz.func147, Tryz.ntmps147
  go_wp2
  go_loopw [5] (fun _ wr => ∃ k : Nat, k ≤ chars.size ∧ wr = w.iter chars k) (fun _ wr => chars.size - wr.iterPos w.heap.size)
  case atStart => exact ⟨0, Nat.zero_le _, rfl⟩
  case round =>
    obtain ⟨k, hk, rfl⟩ := hrel
    by_cases hlt : k < chars.size
    · have hlow := hc k hlt
      have hnx : ∀ ty, (Instr.next (.pointer (some ⟨w.heap.size, 0, none⟩)) true ty).run Tryz.prog (w.iter chars k) = _ := fun ty => run_next_ascii w chars k ty hlt hlow
      have hne : (((chars[k]'hlt).toNat : Int) == 65533) = false := beq_eq_false_iff_ne.2 (by omega)
      have HC := Lib.hid hc
      clear hc
      go_wp2
      go_roundw
      case rel => exact ⟨k + 1, by omega, rfl⟩
      case measure => simp; omega
    · have hnx : ∀ ty, (Instr.next (.pointer (some ⟨w.heap.size, 0, none⟩)) true ty).run Tryz.prog (w.iter chars k) = _ := fun ty => run_next_end w chars k ty hlt
      go_wp2
      go_ret
      exact ⟨rfl, (Below.refl _ _).alloc (Nat.le_refl _) _⟩
set_option maxRecDepth 100000 in
set_option maxHeartbeats 1600000 in
theorem libIndexRune_high (chars : ByteArray) (hc : ∀ k (h : k < chars.size), (chars[k]'h).toNat < 128) (r : Int) (hg : GoodR r) (h128 : 128 ≤ r) (hne : r ≠ 65533) (w : World) (hs : chars.size ≤ 1048576) :
    Calls Tryz.prog 147 #[.string chars, .int .i32 r] w (NotThere w) := by
  have hv : Utf8.valid r = true := by
    unfold Utf8.valid
    rcases hg with ⟨h1, h2⟩ | ⟨h1, h2⟩ <;> simp <;> omega
  obtain ⟨x, hx⟩ : ∃ x, Utf8.encode r = x := ⟨_, rfl⟩
  have h3 := encode_facts r hv h128
  rw [hx] at h3
  obtain ⟨hz2, hz4, hlast⟩ := h3
  obtain ⟨n, hn⟩ : ∃ n, x.size = n + 1 := ⟨x.size - 1, by omega⟩
  have hnx : n < x.size := by omega
  have hl : 128 ≤ (x[n]'hnx).toNat := by
    have := hlast (by omega)
    simpa [hn] using this
  have HE := Lib.hid (fun (V : World) => libValidRune r hg V)
  have hnb : ((r : Int) == 65533) = false := beq_eq_false_iff_ne.2 hne
  have hlt : decide (r < 128) = false := decide_eq_false (by omega)
  have hle : decide (0 ≤ r) = true := decide_eq_true (by omega)
  have hr32 : r ≤ 2147483647 := by rcases hg with ⟨_, h⟩ | ⟨_, h⟩ <;> omega
  have HC := Lib.hid hc
  have hcv : ∀ V : World, (convert 21 9 (.int .i32 r)).run Tryz.prog V = .ok (.string x) V := fun V => by
    rw [run_convert_int_string (P := Tryz.prog) V 21 9 .i32 r (by rw [Tryz.underlying21]; rfl) Tryz.underlying9, hx]
  clear hlast hv hc
  go_enter Tryz.func147, Tryz.ntmps147
  go_wp2_with fail
  refine (HE.out _).mono ?_
  rintro e w1 ⟨rfl, hw1⟩
  obtain rfl := hw1.symm
  go_wp2_with fail
  go_step3
  go_wp2_with fail
  go_loopw [9] (fun i wr => i = .int .i64 ((n : Nat) : Int) ∧ wr = w) (fun _ _ => 0)
  case atStart => exact ⟨by go_num, rfl⟩
  case round =>
    obtain ⟨rfl, hwr⟩ := hrel
    obtain rfl := hwr.symm
    by_cases hin : n < chars.size
    · have hcl := HC.out n hin
      clear hn
      have hd : ((chars[n]'hin).toNat != (x[n]'hnx).toNat) = true := bne_iff_ne.2 (by omega)
      go_wp2
      go_step3
      go_wp2
      go_quiet (fail)
      go_wp2
      have hB1 : Below w.heap.size w (w.drewN nq) := below_draws (Below.refl _ _) _
      obtain ⟨W1, hW1⟩ : ∃ W1, w.drewN nq = W1 := ⟨_, rfl⟩
      rw [hW1] at hB1 ⊢
      clear hW1
      have hib : ∀ V : World, Calls Tryz.prog 152 #[.string (chars.extract (n + 1) chars.size), .int .u8 ((x[n]'hnx).toNat : Int)] V fun e w' => e = Ending.returned (.int .i64 (-1)) ∧ w' = V := fun V => by
        refine (Tryz.strings_IndexByte (chars.extract (n + 1) chars.size) ((x[n]'hnx).toNat : Int) V).mono ?_
        rintro e w' ⟨rfl, h⟩
        refine ⟨?_, h⟩
        rw [indexByte_none]
        intro hm
        obtain ⟨j, hj, he⟩ := List.getElem_of_mem hm
        have h1 : (chars.extract (n + 1) chars.size).data.toList = (chars.data.toList.drop (n + 1)).take (chars.size - (n + 1)) := by simp
        simp only [h1, List.getElem_take, List.getElem_drop] at he
        rw [h1, List.length_take, List.length_drop] at hj
        have hcs : chars.data.toList.length = chars.size := by simp
        have h2 := HC.out (n + 1 + j) (by omega)
        have h3 : (chars[n + 1 + j]'(by omega)) = chars.data.toList[n + 1 + j]'(by omega) := rfl
        rw [h3, he] at h2
        simp at h2
        omega
      have HIB := Lib.hid hib
      have hsl : ∀ V : World, (Instr.slice 9 (.string chars) (some (.int .i64 ((n : Int) + 1))) none none).run Tryz.prog V = .ok (.string (chars.extract (n + 1) chars.size)) V := fun V => by
        have h1 := run_slice_string_l (P := Tryz.prog) (w := V) 9 chars Tryz.underlying9 .i64 ((n : Int) + 1) (by omega) (by omega)
        have e1 : ((n : Int) + 1).toNat = n + 1 := by omega
        rw [e1] at h1
        exact h1
      have hwp : IntKind.i64.wrap ((n : Int) + 1) = (n : Int) + 1 := wrap_next (by omega)
      clear hib
      go_quiet (first | (go_at_call 152; exact Calls.quiet_of_same (HIB.out _)))
      go_wp2
      rw [Exit.noGoto_ret]
      go_ret
      exact ⟨rfl, below_draws hB1 _⟩
    · go_wp2
      go_ret
      exact ⟨rfl, Below.refl _ _⟩
end Go.Proofs.YtplchhahjmoodaaGreatDoor
/-
  strings.IndexAny for signs that are ASCII, over any text: short texts walked here, long ones by the shelf.
-/
namespace Go.Proofs.YtplchhahjmoodaaGreatDoor
open Go Go.RowKit

theorem run_next_in {P : Program} (W : World) (g : Nat) (s : ByteArray) (pos : Nat) (ty : TypeId) (hg : W.heap[g]? = some (.stringIter s pos)) (h : pos < s.size) :
    (Instr.next (.pointer (some ⟨g, 0, none⟩)) true ty).run P W = .ok (.tuple #[.bool true, .int .i64 pos, .int .i32 (Utf8.decode s pos).1]) (W.putObj g (.stringIter s (pos + (Utf8.decode s pos).2))) := by
  simp only [Instr.next, getObj, setObj, Sem.run_bind, Sem.run, hg, Result.andThen, h, if_true]
  simp [goInt, World.putObj]
theorem run_next_out {P : Program} (W : World) (g : Nat) (s : ByteArray) (pos : Nat) (ty : TypeId) (hg : W.heap[g]? = some (.stringIter s pos)) (h : ¬ pos < s.size) :
    (Instr.next (.pointer (some ⟨g, 0, none⟩)) true ty).run P W = .ok (.tuple #[.bool false]) W := by
  simp [Instr.next, getObj, Sem.run, hg, h]
theorem Below.putObj {B g : Nat} {w W : World} {o : Obj} (h : Below B w W) (hB : B ≤ g) : Below B w (W.putObj g o) :=
  ⟨h.os, h.tape, h.output, by rw [World.putObj_size]; exact h.size, fun k hk => (World.putObj_heap_other (by omega)).trans (h.block k hk)⟩
theorem iterPos_at {W : World} {g k : Nat} {s : ByteArray} (h : W.heap[g]? = some (.stringIter s k)) : W.iterPos g = k := by
  unfold World.iterPos
  rw [h]
theorem libUseSet (n : Nat) (w : World) : Calls Tryz.prog 148 #[.int .i64 (n : Int)] w fun e w' => e = .returned (.bool (decide (8 < n))) ∧ w' = w := by
  by_cases h : 8 < n
  · have h2 : (8 : Int) < (n : Int) := by omega
    rw [decide_eq_true h]
    go_enter Tryz.func148, Tryz.ntmps148
    go_wp2
    go_ret
    exact ⟨rfl, rfl⟩
  · have h2 : ¬ (8 : Int) < (n : Int) := by omega
    rw [decide_eq_false h]
    go_enter Tryz.func148, Tryz.ntmps148
    go_wp2
    go_ret
    exact ⟨rfl, rfl⟩
set_option maxRecDepth 100000 in
theorem libIndexRune_low (chars : ByteArray) (b : UInt8) (hb : b.toNat < 128) (w : World) :
    Calls Tryz.prog 147 #[.string chars, .int .i32 (b.toNat : Int)] w fun e w' => e = .returned (.int .i64 (Lib.indexByte chars.data.toList b)) ∧ w' = w := by
  have HC := Lib.hid (fun V => Tryz.strings_IndexByte chars (b.toNat : Int) V)
  have hw : IntKind.u8.wrap (b.toNat : Int) = (b.toNat : Int) := by rw [IntKind.wrap_u8]; omega
  have hbb : ((b.toNat : Int)).toNat.toUInt8 = b := by simp
  go_enter Tryz.func147, Tryz.ntmps147
  go_wp2_with fail
  refine (HC.out _).mono ?_
  rw [hbb]
  rintro e w1 ⟨rfl, hw1⟩
  obtain rfl := hw1.symm
  go_wp2
  go_ret
  exact ⟨rfl, rfl⟩
theorem contains_of {chars : ByteArray} {b : UInt8} : chars.data.toList.contains b = decide (0 ≤ Lib.indexByte chars.data.toList b) := Lib.contains_iff_indexByte _ _
theorem high_not {chars : ByteArray} (hc : ∀ k (h : k < chars.size), (chars[k]'h).toNat < 128) {b : UInt8} (hb : 128 ≤ b.toNat) : chars.data.toList.contains b = false := by
  cases h : chars.data.toList.contains b with
  | false => rfl
  | true =>
    rw [List.contains_iff_mem] at h
    obtain ⟨j, hj, he⟩ := List.getElem_of_mem h
    have hcs : chars.data.toList.length = chars.size := by simp
    have h2 := hc j (by omega)
    have h3 : (chars[j]'(by omega)) = chars.data.toList[j] := rfl
    rw [h3, he] at h2
    omega
/-- What IndexAny answers. -/
def AnyEnd (s chars : ByteArray) (w : World) (e : Ending) (w' : World) : Prop := e = .returned (.int .i64 (idxP (fun b => chars.data.toList.contains b) s.data.toList)) ∧ Below w.heap.size w w'
set_option maxRecDepth 100000 in
set_option maxHeartbeats 3200000 in
theorem libIndexAny_short (s chars : ByteArray) (w : World) (h2 : 2 ≤ chars.size) (hcs : chars.size ≤ 1048576) (h8 : s.size ≤ 8) (hc : ∀ k (h : k < chars.size), (chars[k]'h).toNat < 128) :
    Calls Tryz.prog 131 #[.string s, .string chars] w (AnyEnd s chars w) := by
  have hne : chars.toList.isEmpty = false := by
    rw [ByteArray.toList_eq]
    have : chars.data.toList.length = chars.size := by simp
    cases hl : chars.data.toList with
    | nil => rw [hl] at this; simp at this; omega
    | cons a l => rfl
  have hne2 : ¬ chars.toList = [] := by intro h; rw [h] at hne; cases hne
  have hn1 : ((chars.size : Int) == 1) = false := beq_eq_false_iff_ne.2 (by omega)
  have hu : decide (8 < s.size) = false := decide_eq_false (by omega)
  have hls : s.data.toList.length = s.size := by simp
  go_enter Tryz.func131, Tryz.ntmps131
  go_wp2_with fail
  refine (libUseSet s.size _).mono ?_
  rw [hu]
  rintro e w1 ⟨rfl, hw1⟩
  obtain rfl := hw1.symm
  go_wp2
  have HC := Lib.hid hc
  have HLS := Lib.hid hls
  clear hc hne hne2 hn1 hu hls
  go_loopw [9] (fun _ wr => ∃ k : Nat, k ≤ s.size ∧ wr.heap[w.heap.size]? = some (.stringIter s k) ∧ Below w.heap.size w wr ∧ ∀ j (hj : j < s.data.toList.length), j < k → chars.data.toList.contains s.data.toList[j] = false) (fun _ wr => s.size - wr.iterPos w.heap.size)
  case atStart => exact ⟨0, Nat.zero_le _, World.iter_heap _ _ _, (Below.refl _ _).alloc (Nat.le_refl _) _, fun j _ h => by omega⟩
  case round =>
    obtain ⟨k, hk, hit, hbw, hall⟩ := hrel
    have hit' := hit
    have hglt : w.heap.size < wr.heap.size := (Array.getElem?_eq_some_iff.1 hit).1
    have HALL := Lib.hid hall
    clear hall
    by_cases hlt : k < s.size
    · have hkl : k < s.data.toList.length := by rw [HLS.out]; exact hlt
      have hsk : s.data.toList[k] = s[k]'hlt := rfl
      have HSK := Lib.hid hsk
      have hnx : ∀ ty, (Instr.next (.pointer (some ⟨w.heap.size, 0, none⟩)) true ty).run Tryz.prog wr = _ := fun ty => run_next_in wr w.heap.size s k ty hit hlt
      have hpos : ∀ p, (wr.putObj w.heap.size (.stringIter s p)).heap[w.heap.size]? = some (.stringIter s p) := fun p => World.putObj_heap_same hglt
      have hmeas := iterPos_at hit
      by_cases hlow : (s[k]'hlt).toNat < 128
      · rw [decode_ascii s k hlt hlow] at hnx
        have hbp := Below.putObj (o := .stringIter s (k + 1)) hbw (Nat.le_refl _)
        have hit2 := hpos (k + 1)
        obtain ⟨W1, hW1⟩ : ∃ W1, wr.putObj w.heap.size (.stringIter s (k + 1)) = W1 := ⟨_, rfl⟩
        rw [hW1] at hbp hit2
        simp only [hW1] at hnx
        clear hpos hit' hW1 hsk
        have HIT2 := Lib.hid hit2
        have HM := Lib.hid hmeas
        clear hit hit2 hmeas
        have hin := contains_of (chars := chars) (b := s[k]'hlt)
        have HR := Lib.hid (libIndexRune_low chars (s[k]'hlt) hlow W1)
        have HIN := Lib.hid hin
        clear hin
        go_wp2_with fail
        refine HR.out.mono ?_
        rintro e w2 ⟨rfl, hw2⟩
        obtain rfl := hw2.symm
        cases hco : decide (0 ≤ Lib.indexByte chars.data.toList (s[k]'hlt)) with
        | true =>
          have HE := Lib.hid (show idxP (fun b => chars.data.toList.contains b) s.data.toList = (k : Int) by
            refine idxP_hit hkl (fun j hj hjk => HALL.out j hj hjk) ?_
            show chars.data.toList.contains s.data.toList[k] = true
            rw [HSK.out, HIN.out, hco])
          clear hnx
          go_wp2
          go_ret
          exact ⟨by rw [HE.out]; rfl, hbp⟩
        | false =>
          clear hnx
          go_wp2
          go_roundw
          case rel =>
            refine ⟨k + 1, by omega, HIT2.out, hbp, fun j hj hjk => ?_⟩
            by_cases hjk2 : j = k
            · subst hjk2
              rw [HSK.out, HIN.out, hco]
            · exact HALL.out j hj (by omega)
          case measure => rw [iterPos_at HIT2.out, HM.out]; omega
      · obtain ⟨hgood, hw1, hcont⟩ := decode_good s k hlt (by omega)
        have hhigh := (decode_high s k hlt (by omega)).1
        have hself : 128 ≤ (s[k]'hlt).toNat := by omega
        obtain ⟨dc, hdc⟩ : ∃ dc, Utf8.decode s k = dc := ⟨_, rfl⟩
        rw [hdc] at hgood hw1 hcont hhigh
        simp only [hdc] at hnx
        have hle : k + dc.2 ≤ s.size := by
          by_cases h1 : dc.2 = 1
          · omega
          · obtain ⟨hj, _⟩ := hcont (dc.2 - 1) (by omega) (by omega)
            omega
        have hbp := Below.putObj (o := .stringIter s (k + dc.2)) hbw (Nat.le_refl _)
        have hit2 := hpos (k + dc.2)
        obtain ⟨W1, hW1⟩ : ∃ W1, wr.putObj w.heap.size (.stringIter s (k + dc.2)) = W1 := ⟨_, rfl⟩
        rw [hW1] at hbp hit2
        simp only [hW1] at hnx
        have hglt1 : w.heap.size < W1.heap.size := (Array.getElem?_eq_some_iff.1 hit2).1
        have hnext : ∀ j (hj : j < s.data.toList.length), j < k + dc.2 → chars.data.toList.contains s.data.toList[j] = false := by
          intro j hj hjk
          by_cases h1 : j < k
          · exact HALL.out j hj h1
          · by_cases h2 : j = k
            · subst h2
              exact high_not HC.out (by show 128 ≤ (s[j]'hlt).toNat; exact hself)
            · obtain ⟨hj2, hj3⟩ := hcont (j - k) (by omega) (by omega)
              have e : k + (j - k) = j := by omega
              simp only [e] at hj3
              exact high_not HC.out hj3
        have HNEXT := Lib.hid hnext
        have HIT2 := Lib.hid hit2
        have HM := Lib.hid hmeas
        clear hpos hit' hW1 hsk hdc hcont hnext hit hit2 hmeas hlow
        have hR : Calls Tryz.prog 147 #[.string chars, .int .i32 (dc.1 : Int)] W1 (NotThere W1) := by
          by_cases h5 : (dc.1 : Int) = 65533
          · rw [h5]
            exact libIndexRune_error chars HC.out W1 hcs
          · exact libIndexRune_high chars HC.out _ hgood (by omega) h5 W1 hcs
        have HR := Lib.hid hR
        clear hR
        go_wp2_with fail
        refine HR.out.mono ?_
        rintro e w2 ⟨rfl, hb2⟩
        have hit3 := (hb2.block _ hglt1).trans HIT2.out
        have hB2 := hbp.trans (hb2.mono hbp.size)
        have HIT3 := Lib.hid hit3
        clear hnx hit3
        go_wp2
        go_roundw
        case rel => exact ⟨k + dc.2, hle, HIT3.out, hB2, HNEXT.out⟩
        case measure => rw [iterPos_at HIT3.out, HM.out]; omega
    · have hnx : ∀ ty, (Instr.next (.pointer (some ⟨w.heap.size, 0, none⟩)) true ty).run Tryz.prog wr = _ := fun ty => run_next_out wr w.heap.size s k ty hit hlt
      have HE := Lib.hid (show idxP (fun b => chars.data.toList.contains b) s.data.toList = -1 from idxP_none fun j hj => HALL.out j hj (by rw [HLS.out] at hj; omega))
      clear hit hit'
      go_wp2
      go_ret
      exact ⟨by rw [HE.out]; rfl, hbw⟩
/-- strings.IndexAny for two or more signs that are ASCII. -/
theorem libIndexAny (s chars : ByteArray) (w : World) (h2 : 2 ≤ chars.size) (hcs : chars.size ≤ 1048576) (hs : s.size ≤ 1048576) (hc : ∀ k (h : k < chars.size), (chars[k]'h).toNat < 128) :
    Calls Tryz.prog 131 #[.string s, .string chars] w (AnyEnd s chars w) := by
  by_cases h8 : s.size ≤ 8
  · exact libIndexAny_short s chars w h2 hcs h8 hc
  · refine (Tryz.strings_IndexAny_long (fun w => by kernel_rfl) s chars w h2 (by omega) (by omega) (by omega) ?_).mono ?_
    · intro j b hb
      obtain ⟨hj, rfl⟩ := List.getElem?_eq_some_iff.1 hb
      exact hc j (by simpa using hj)
    · rintro e w' ⟨rfl, rfl⟩
      exact ⟨by rw [indexAny_idxP], ((Below.refl _ _).alloc (Nat.le_refl _) _).alloc (by simp) _⟩
end Go.Proofs.YtplchhahjmoodaaGreatDoor
/-
  The program's kindOfWord: the place of a word in the table of words.
-/
namespace Go.Proofs.YtplchhahjmoodaaGreatDoor
open Go Go.RowKit

def formWords : List ByteArray := [⟨#[]⟩, ⟨#[116, 114, 117, 101]⟩, ⟨#[111, 110]⟩, ⟨#[102, 114, 111, 109]⟩, ⟨#[115, 104, 97, 114, 101, 100]⟩, ⟨#[110, 101, 120, 116]⟩, ⟨#[115, 97, 109, 101]⟩, ⟨#[112, 97, 116, 104]⟩, ⟨#[33]⟩, ⟨#[38]⟩, ⟨#[124]⟩, ⟨#[115, 111, 109, 101]⟩, ⟨#[97, 108, 108]⟩]
theorem index_word (w : World) : ∀ (k : Nat) (h : k < formWords.length), (Instr.index 116 (.agg #[.string ⟨#[]⟩, .string ⟨#[116, 114, 117, 101]⟩, .string ⟨#[111, 110]⟩, .string ⟨#[102, 114, 111, 109]⟩, .string ⟨#[115, 104, 97, 114, 101, 100]⟩, .string ⟨#[110, 101, 120, 116]⟩, .string ⟨#[115, 97, 109, 101]⟩, .string ⟨#[112, 97, 116, 104]⟩, .string ⟨#[33]⟩, .string ⟨#[38]⟩, .string ⟨#[124]⟩, .string ⟨#[115, 111, 109, 101]⟩, .string ⟨#[97, 108, 108]⟩]) (.int .i64 (k : Int))).run Tryz.prog w = .ok (.string formWords[k]) w
  | 0, _ => by kernel_rfl
  | 1, _ => by kernel_rfl
  | 2, _ => by kernel_rfl
  | 3, _ => by kernel_rfl
  | 4, _ => by kernel_rfl
  | 5, _ => by kernel_rfl
  | 6, _ => by kernel_rfl
  | 7, _ => by kernel_rfl
  | 8, _ => by kernel_rfl
  | 9, _ => by kernel_rfl
  | 10, _ => by kernel_rfl
  | 11, _ => by kernel_rfl
  | 12, _ => by kernel_rfl
  | k + 13, h => absurd h (by unfold formWords; simp)
theorem flip_eq (a b : List UInt8) : (a == b) = (b == a) := by
  rw [Bool.eq_iff_iff, beq_iff_eq, beq_iff_eq]
  exact eq_comm
set_option maxRecDepth 100000 in
set_option maxHeartbeats 3200000 in
theorem implKindOfWord (s : ByteArray) (w : World) (hwt : HasFormulaWords w) :
    Calls Tryz.prog 132 #[.string s] w fun e w' => e = .returned (.int .i64 (place formWords s)) ∧ w = w' := by
  have hc := fun i => hwt.cell i
  go_enter Tryz.func132, Tryz.ntmps132
  go_wp2_with fail
  clear hc
  go_loop [6] (fun i => ∃ k : Nat, k ≤ 13 ∧ i = .int .i64 k ∧ place formWords s = placeFrom s k (formWords.drop k)) (fun i => 13 - (intOf i).toNat)
  case atStart => exact ⟨0, Nat.zero_le _, rfl, rfl⟩
  case round =>
    obtain ⟨k, hk, rfl, hp⟩ := hrel
    have Hp := Lib.hid hp
    clear hp
    by_cases hlt : k < 13
    · have hl : k < formWords.length := hlt
      have hidx := fun w => index_word w k hl
      obtain ⟨x, hx⟩ : ∃ x, formWords[k] = x := ⟨_, rfl⟩
      rw [hx] at hidx
      have HX := Lib.hid hx
      have HL := Lib.hid hl
      cases he : (x.toList == s.toList) with
      | true =>
        have he2 : (s.toList == x.toList) = true := (flip_eq _ _).trans he
        have HR := Lib.hid (show place formWords s = (k : Int) by rw [Hp.out]; exact place_hit HL.out (by rw [HX.out]; exact he))
        clear hx
        go_wp2_with fail
        go_ret
        exact ⟨by rw [HR.out]; rfl, rfl⟩
      | false =>
        have he2 : (s.toList == x.toList) = false := (flip_eq _ _).trans he
        have HR := Lib.hid (show place formWords s = placeFrom s (k + 1) (formWords.drop (k + 1)) by rw [Hp.out]; exact place_miss HL.out (by rw [HX.out]; exact he))
        clear hx
        go_wp2_with fail
        go_round
        case rel => exact ⟨k + 1, by omega, by go_num, HR.out⟩
        case measure => simp [intOf]; omega
    · have hk13 : k = 13 := by omega
      subst hk13
      have HR := Lib.hid (show place formWords s = -1 by rw [Hp.out]; exact place_end (Nat.le_refl _))
      clear hlt hk
      go_wp2_with fail
      go_ret
      exact ⟨by rw [HR.out]; rfl, rfl⟩
end Go.Proofs.YtplchhahjmoodaaGreatDoor
/-
  Reading a formula's text as the program does: the parts of a text, the guess of a node, the guess of a formula; a text that is right is read back.
-/
namespace Go.Proofs.YtplchhahjmoodaaGreatDoor
open Go Go.RowKit

/-- A sign between parts. -/
def isSign (b : UInt8) : Bool := [33, 40, 38, 124, 41, 46].contains b
/-- The length of the part with which a text begins. -/
def plen (l : List UInt8) : Nat :=
  match l.findIdx? isSign with
  | none => l.length
  | some e => if e = 0 ∨ l[e]? = some 46 then e + 1 else e
theorem plen_none {l : List UInt8} (h : l.findIdx? isSign = none) : plen l = l.length := by
  unfold plen
  rw [h]
theorem plen_some {l : List UInt8} {e : Nat} (h : l.findIdx? isSign = some e) : plen l = if e = 0 ∨ l[e]? = some 46 then e + 1 else e := by
  unfold plen
  rw [h]
theorem sign_lt {p : UInt8 → Bool} {l : List UInt8} {e : Nat} (h : l.findIdx? p = some e) : e < l.length := (List.findIdx?_eq_some_iff_getElem.1 h).1
theorem plen_bounds {l : List UInt8} (h : l ≠ []) : 1 ≤ plen l ∧ plen l ≤ l.length := by
  have hl : 0 < l.length := List.length_pos_iff.2 h
  cases hs : l.findIdx? isSign with
  | none => rw [plen_none hs]; omega
  | some e =>
    have := sign_lt hs
    rw [plen_some hs]
    split <;> omega
theorem no_sign {p : UInt8 → Bool} {h : List UInt8} (hh : ∀ b ∈ h, p b = false) : h.findIdx? p = none := by
  rw [List.findIdx?_eq_none_iff]
  exact hh
theorem sign_behind {p : UInt8 → Bool} {h : List UInt8} (hh : ∀ b ∈ h, p b = false) {b : UInt8} (hb : p b = true) (rest : List UInt8) : (h ++ b :: rest).findIdx? p = some h.length := by
  rw [List.findIdx?_append, no_sign hh]
  simp [List.findIdx?_cons, hb]
/-- What may stand behind a head: nothing, or the sign or the end of a pair. -/
def Ends (l : List UInt8) : Prop := l = [] ∨ ∃ b r, l = b :: r ∧ isSign b = true ∧ b ≠ 46
theorem plen_head {h rest : List UInt8} (hh : ∀ b ∈ h, isSign b = false) (hn : h ≠ []) (hr : Ends rest) : plen (h ++ rest) = h.length := by
  have hl : 0 < h.length := List.length_pos_iff.2 hn
  rcases hr with rfl | ⟨b, r, rfl, hb, h46⟩
  · rw [List.append_nil, plen_none (no_sign hh)]
  · rw [plen_some (sign_behind hh hb r), if_neg]
    rintro (h0 | h0)
    · omega
    · rw [List.getElem?_append_right (Nat.le_refl _)] at h0
      simp only [Nat.sub_self, List.getElem?_cons_zero, Option.some.injEq] at h0
      exact h46 h0
theorem plen_dot {h : List UInt8} (hh : ∀ b ∈ h, isSign b = false) (rest : List UInt8) : plen ((h ++ [46]) ++ rest) = (h ++ [46]).length := by
  rw [List.append_assoc]
  show plen (h ++ 46 :: rest) = _
  rw [plen_some (sign_behind hh (by decide) rest), if_pos]
  · simp
  · right
    rw [List.getElem?_append_right (Nat.le_refl _)]
    simp
theorem plen_sign {b : UInt8} (hb : isSign b = true) (rest : List UInt8) : plen (b :: rest) = 1 := by
  have h : (b :: rest).findIdx? isSign = some 0 := sign_behind (h := []) (by simp) hb rest
  rw [plen_some h, if_pos (.inl rfl)]

def partsF : Nat → List UInt8 → List (List UInt8)
  | 0, _ => []
  | _ + 1, [] => []
  | n + 1, b :: l => (b :: l).take (plen (b :: l)) :: partsF n ((b :: l).drop (plen (b :: l)))
theorem partsF_same : ∀ (n m : Nat) (l : List UInt8), l.length ≤ n → l.length ≤ m → partsF n l = partsF m l
  | 0, 0, _, _, _ => rfl
  | 0, m + 1, l, h, _ => by
    rw [List.eq_nil_of_length_eq_zero (by omega : l.length = 0)]
    rfl
  | n + 1, 0, l, _, h => by
    rw [List.eq_nil_of_length_eq_zero (by omega : l.length = 0)]
    rfl
  | n + 1, m + 1, [], _, _ => rfl
  | n + 1, m + 1, b :: l, h, h' => by
    have hp := plen_bounds (l := b :: l) (by simp)
    rw [List.length_cons] at h h' hp
    show _ :: _ = _ :: _
    rw [partsF_same n m ((b :: l).drop (plen (b :: l))) (by rw [List.length_drop, List.length_cons]; omega) (by rw [List.length_drop, List.length_cons]; omega)]
/-- The parts of a text. -/
def partsOf (l : List UInt8) : List (List UInt8) := partsF l.length l
theorem partsOf_nil : partsOf [] = [] := rfl
theorem partsOf_cons {l : List UInt8} (h : l ≠ []) : partsOf l = l.take (plen l) :: partsOf (l.drop (plen l)) := by
  cases l with
  | nil => exact (h rfl).elim
  | cons b l =>
    have hp := plen_bounds (l := b :: l) (by simp)
    rw [List.length_cons] at hp
    show _ :: _ = _ :: _
    rw [show partsOf ((b :: l).drop (plen (b :: l))) = partsF l.length ((b :: l).drop (plen (b :: l))) from partsF_same _ _ _ (Nat.le_refl _) (by rw [List.length_drop, List.length_cons]; omega)]
theorem parts_front {h rest : List UInt8} (hn : h ≠ []) (hp : plen (h ++ rest) = h.length) : partsOf (h ++ rest) = h :: partsOf rest := by
  rw [partsOf_cons (by simp [hn]), hp, List.take_left, List.drop_left]

def nodeQ (ss : List ByteArray) (kd k u v : Int) (qs : List (List (List UInt8))) : List (List UInt8) :=
  if kd = 9 then [40] :: (qs.getD 0 [] ++ ([38] :: (qs.getD 1 [] ++ [[41]])))
  else if kd = 10 then [40] :: (qs.getD 0 [] ++ ([124] :: (qs.getD 1 [] ++ [[41]])))
  else nodeL ss kd k u v [] :: qs.getD 0 []
mutual
/-- The parts of a formula's text. -/
def Fm.partsT (ss : List ByteArray) : Fm → List (List UInt8)
  | .mk kd k u v pp => nodeQ ss kd k u v (Fm.partssT ss pp)
def Fm.partssT (ss : List ByteArray) : List Fm → List (List (List UInt8))
  | [] => []
  | t :: ts => t.partsT ss :: Fm.partssT ss ts
end
theorem Fm.partssT_map (ss : List ByteArray) : ∀ ts : List Fm, Fm.partssT ss ts = ts.map (Fm.partsT ss)
  | [] => rfl
  | t :: ts => by rw [Fm.partssT, Fm.partssT_map ss ts]; rfl
theorem Fm.partsT_eq (ss : List ByteArray) (t : Fm) : t.partsT ss = nodeQ ss t.kd t.k t.u t.v (t.args.map (Fm.partsT ss)) := by
  cases t
  rw [Fm.partsT, Fm.partssT_map]
  rfl
theorem low_sign {b : UInt8} (h : isLow b = true) : isSign b = false := by
  unfold isLow at h
  simp only [Bool.and_eq_true, decide_eq_true_eq] at h
  unfold isSign
  simp only [List.contains_eq_mem, List.mem_cons, List.not_mem_nil, or_false, decide_eq_false_iff_not]
  rintro (rfl | rfl | rfl | rfl | rfl | rfl) <;> simp at h
theorem low_word {b : UInt8} (h : isLow b = true) : (b == 32 || b == 58) = false := by
  unfold isLow at h
  simp only [Bool.and_eq_true, decide_eq_true_eq] at h
  simp only [Bool.or_eq_false_iff, beq_eq_false_iff_ne]
  constructor <;> (rintro rfl; simp at h)
theorem letter_low {u : Int} : ∀ b ∈ letterL u, isLow b = true := by
  unfold letterL
  intro b hb
  repeat' split at hb
  all_goals
    rw [List.mem_singleton] at hb
    subst hb
    rfl
theorem name_at {ss : List ByteArray} (hg : goodVars ss = true) {k : Int} (hk : 0 ≤ k ∧ k < ss.length) : (∀ b ∈ nameL ss k, isLow b = true) ∧ place ss ⟨(nameL ss k).toArray⟩ = k := by
  obtain ⟨kn, rfl⟩ : ∃ kn : Nat, k = (kn : Int) := ⟨k.toNat, by omega⟩
  have hkl : kn < ss.length := by omega
  have hn : nameAt ss (kn : Int) = ss[kn] := by simp [nameAt, hkl]
  have hv := vars_at hg hkl
  refine ⟨by unfold nameL; rw [hn]; exact name_low hv.1, ?_⟩
  have : (⟨(nameL ss (kn : Int)).toArray⟩ : ByteArray) = ss[kn] := by
    unfold nameL
    rw [hn]
  rw [this]
  exact hv.2

/-- The word of a head, and what is behind the sign after it. -/
def cutW (l : List UInt8) : List UInt8 × List UInt8 :=
  match l.findIdx? (fun b => b == 32 || b == 58) with
  | none => (l, [])
  | some e => (l.take e, l.drop (e + 1))
/-- What stands ahead of a colon, and behind it. -/
def cutC (l : List UInt8) : List UInt8 × List UInt8 :=
  match l.findIdx? (fun b => b == 58) with
  | none => (l, [])
  | some e => (l.take e, l.drop (e + 1))
theorem cutW_at {h : List UInt8} (hh : ∀ b ∈ h, (b == 32 || b == 58) = false) {b : UInt8} (hb : (b == 32 || b == 58) = true) (rest : List UInt8) : cutW (h ++ b :: rest) = (h, rest) := by
  unfold cutW
  rw [sign_behind (p := fun b => b == 32 || b == 58) hh hb rest]
  simp
theorem cutW_none {h : List UInt8} (hh : ∀ b ∈ h, (b == 32 || b == 58) = false) : cutW h = (h, []) := by
  unfold cutW
  rw [no_sign (p := fun b => b == 32 || b == 58) hh]
theorem cutC_at {h : List UInt8} (hh : ∀ b ∈ h, (b == 58) = false) (rest : List UInt8) : cutC (h ++ 58 :: rest) = (h, rest) := by
  unfold cutC
  rw [sign_behind (p := fun b => b == 58) hh rfl rest]
  simp
theorem logic_at {u : Int} (h : 0 ≤ u ∧ u ≤ 3) (l : List UInt8) : logicP (letterL u ++ l) 0 = u := by
  have h4 : u = 0 ∨ u = 1 ∨ u = 2 ∨ u = 3 := by omega
  rcases h4 with rfl | rfl | rfl | rfl <;> rfl
theorem logic_next {u v : Int} (h : 0 ≤ v ∧ v ≤ 3) (l : List UInt8) : logicP (letterL u ++ (letterL v ++ l)) 1 = v := by
  have hu : ∃ c, letterL u = [c] := by
    unfold letterL
    repeat' split
    all_goals exact ⟨_, rfl⟩
  obtain ⟨c, hc⟩ := hu
  rw [hc]
  have h4 : v = 0 ∨ v = 1 ∨ v = 2 ∨ v = 3 := by omega
  rcases h4 with rfl | rfl | rfl | rfl <;> rfl
/-- The guess of a node, by its head. -/
def guessN (ss : List ByteArray) (l : List UInt8) : Fm :=
  let kd := place formWords ⟨(cutW l).1.toArray⟩
  if kd = 2 ∨ kd = 3 then .mk kd (place ss ⟨(cutC (cutW l).2).1.toArray⟩) (logicP (cutC (cutW l).2).2 0) 0 []
  else if kd = 4 ∨ kd = 11 ∨ kd = 12 then .mk kd 0 (logicP (cutW l).2 0) 0 []
  else if kd = 5 ∨ kd = 6 ∨ kd = 7 then .mk kd 0 (logicP (cutW l).2 0) (logicP (cutW l).2 1) []
  else .mk kd 0 0 0 []
theorem guessN_of {ss : List ByteArray} {l w r : List UInt8} {kd : Int} (hc : cutW l = (w, r)) (hk : place formWords ⟨w.toArray⟩ = kd) :
    guessN ss l = if kd = 2 ∨ kd = 3 then .mk kd (place ss ⟨(cutC r).1.toArray⟩) (logicP (cutC r).2 0) 0 []
      else if kd = 4 ∨ kd = 11 ∨ kd = 12 then .mk kd 0 (logicP r 0) 0 []
      else if kd = 5 ∨ kd = 6 ∨ kd = 7 then .mk kd 0 (logicP r 0) (logicP r 1) []
      else .mk kd 0 0 0 [] := by
  subst hk
  unfold guessN
  rw [hc]
def placeL (w : List UInt8) : Nat → List (List UInt8) → Int
  | _, [] => -1
  | k, x :: xs => if x = w then (k : Int) else placeL w (k + 1) xs
theorem placeFrom_list (s : ByteArray) : ∀ (k : Nat) (xs : List ByteArray), placeFrom s k xs = placeL s.data.toList k (xs.map (·.data.toList))
  | _, [] => rfl
  | k, x :: xs => by
    rw [placeFrom, List.map_cons, placeL, placeFrom_list s (k + 1) xs, ByteArray.toList_eq, ByteArray.toList_eq]
    by_cases h : x.data.toList = s.data.toList
    · rw [if_pos h, if_pos (beq_iff_eq.2 h)]
    · rw [if_neg h, if_neg (by simpa using h)]
theorem place_word {w : List UInt8} {n : Int} (h : placeL w 0 (formWords.map (·.data.toList)) = n) : place formWords ⟨w.toArray⟩ = n := by
  unfold place
  rw [placeFrom_list]
  exact h
/-- A head is guessed right. -/
theorem guess_node {ss : List ByteArray} (hg : goodVars ss = true) {kd k u v : Int} (hu1 : usesF kd < 1 → u = 0) (hv1 : usesF kd < 2 → v = 0) (hk0 : ¬ (kd = 2 ∨ kd = 3) → k = 0) (hk1 : kd = 2 ∨ kd = 3 → 0 ≤ k ∧ k < ss.length) (hu : 0 ≤ u ∧ u ≤ 3) (hv : 0 ≤ v ∧ v ≤ 3)
    (hkd : kd = 1 ∨ kd = 2 ∨ kd = 3 ∨ kd = 4 ∨ kd = 5 ∨ kd = 6 ∨ kd = 7 ∨ kd = 8 ∨ kd = 11 ∨ kd = 12) : guessN ss (nodeL ss kd k u v []) = .mk kd k u v [] := by
  rcases hkd with rfl | rfl | rfl | rfl | rfl | rfl | rfl | rfl | rfl | rfl
  · obtain rfl := hu1 (by decide)
    obtain rfl := hv1 (by decide)
    obtain rfl := hk0 (by decide)
    have hc : cutW (nodeL ss 1 0 0 0 []) = ([116, 114, 117, 101], []) := cutW_none (h := [116, 114, 117, 101]) (by decide)
    rw [guessN_of (kd := 1) hc (place_word rfl)]
    rfl
  · obtain rfl := hv1 (by decide)
    obtain ⟨hlow, hpl⟩ := name_at hg (hk1 (by decide))
    have hc : cutW (nodeL ss 2 k u 0 []) = ([111, 110], nameL ss k ++ (58 :: letterL u)) := cutW_at (h := [111, 110]) (by decide) (b := 32) (by decide) _
    have hn : cutC (nameL ss k ++ (58 :: letterL u)) = (nameL ss k, letterL u) := cutC_at (fun b hb => by have := low_word (hlow b hb); simp only [Bool.or_eq_false_iff] at this; exact this.2) _
    rw [guessN_of (kd := 2) hc (place_word rfl), if_pos (by decide), hn]
    show Fm.mk 2 (place ss ⟨(nameL ss k).toArray⟩) (logicP (letterL u) 0) 0 [] = _
    rw [hpl, ← List.append_nil (letterL u), logic_at hu]
  · obtain rfl := hv1 (by decide)
    obtain ⟨hlow, hpl⟩ := name_at hg (hk1 (by decide))
    have hc : cutW (nodeL ss 3 k u 0 []) = ([102, 114, 111, 109], nameL ss k ++ (58 :: letterL u)) := cutW_at (h := [102, 114, 111, 109]) (by decide) (b := 32) (by decide) _
    have hn : cutC (nameL ss k ++ (58 :: letterL u)) = (nameL ss k, letterL u) := cutC_at (fun b hb => by have := low_word (hlow b hb); simp only [Bool.or_eq_false_iff] at this; exact this.2) _
    rw [guessN_of (kd := 3) hc (place_word rfl), if_pos (by decide), hn]
    show Fm.mk 3 (place ss ⟨(nameL ss k).toArray⟩) (logicP (letterL u) 0) 0 [] = _
    rw [hpl, ← List.append_nil (letterL u), logic_at hu]
  · obtain rfl := hv1 (by decide)
    obtain rfl := hk0 (by decide)
    have hc : cutW (nodeL ss 4 0 u 0 []) = ([115, 104, 97, 114, 101, 100], letterL u) := cutW_at (h := [115, 104, 97, 114, 101, 100]) (by decide) (b := 58) (by decide) _
    rw [guessN_of (kd := 4) hc (place_word rfl), if_neg (by decide), if_pos (by decide), ← List.append_nil (letterL u), logic_at hu]
  · obtain rfl := hk0 (by decide)
    have hc : cutW (nodeL ss 5 0 u v []) = ([110, 101, 120, 116], letterL u ++ letterL v) := cutW_at (h := [110, 101, 120, 116]) (by decide) (b := 58) (by decide) _
    have h2 := logic_next (u := u) hv []
    rw [List.append_nil] at h2
    rw [guessN_of (kd := 5) hc (place_word rfl), if_neg (by decide), if_neg (by decide), if_pos (by decide), logic_at hu, h2]
  · obtain rfl := hk0 (by decide)
    have hc : cutW (nodeL ss 6 0 u v []) = ([115, 97, 109, 101], letterL u ++ letterL v) := cutW_at (h := [115, 97, 109, 101]) (by decide) (b := 58) (by decide) _
    have h2 := logic_next (u := u) hv []
    rw [List.append_nil] at h2
    rw [guessN_of (kd := 6) hc (place_word rfl), if_neg (by decide), if_neg (by decide), if_pos (by decide), logic_at hu, h2]
  · obtain rfl := hk0 (by decide)
    have hc : cutW (nodeL ss 7 0 u v []) = ([112, 97, 116, 104], letterL u ++ letterL v) := cutW_at (h := [112, 97, 116, 104]) (by decide) (b := 58) (by decide) _
    have h2 := logic_next (u := u) hv []
    rw [List.append_nil] at h2
    rw [guessN_of (kd := 7) hc (place_word rfl), if_neg (by decide), if_neg (by decide), if_pos (by decide), logic_at hu, h2]
  · obtain rfl := hu1 (by decide)
    obtain rfl := hv1 (by decide)
    obtain rfl := hk0 (by decide)
    have hc : cutW (nodeL ss 8 0 0 0 []) = ([33], []) := cutW_none (h := [33]) (by decide)
    rw [guessN_of (kd := 8) hc (place_word rfl)]
    rfl
  · obtain rfl := hv1 (by decide)
    obtain rfl := hk0 (by decide)
    have hc : cutW (nodeL ss 11 0 u 0 []) = ([115, 111, 109, 101], letterL u ++ [46]) := cutW_at (h := [115, 111, 109, 101]) (by decide) (b := 32) (by decide) _
    rw [guessN_of (kd := 11) hc (place_word rfl), if_neg (by decide), if_pos (by decide), logic_at hu]
  · obtain rfl := hv1 (by decide)
    obtain rfl := hk0 (by decide)
    have hc : cutW (nodeL ss 12 0 u 0 []) = ([97, 108, 108], letterL u ++ [46]) := cutW_at (h := [97, 108, 108]) (by decide) (b := 32) (by decide) _
    rw [guessN_of (kd := 12) hc (place_word rfl), if_neg (by decide), if_pos (by decide), logic_at hu]

/-- Heads that bear parts, or none: where such a head ends. -/
theorem head_len {ss : List ByteArray} (hg : goodVars ss = true) {kd k u v : Int} (hk1 : kd = 2 ∨ kd = 3 → 0 ≤ k ∧ k < ss.length)
    (hkd : kd = 1 ∨ kd = 2 ∨ kd = 3 ∨ kd = 4 ∨ kd = 5 ∨ kd = 6 ∨ kd = 7) : (∀ b ∈ nodeL ss kd k u v [], isSign b = false) ∧ nodeL ss kd k u v [] ≠ [] := by
  have hl : ∀ n : Int, ∀ b ∈ letterL n, isSign b = false := fun n b hb => low_sign (letter_low b hb)
  rcases hkd with rfl | rfl | rfl | rfl | rfl | rfl | rfl
  · exact ⟨(by decide : ∀ b ∈ ([116, 114, 117, 101] : List UInt8), isSign b = false), (by decide : ([116, 114, 117, 101] : List UInt8) ≠ [])⟩
  · obtain ⟨hlow, _⟩ := name_at hg (hk1 (by decide))
    show (∀ b ∈ [111, 110, 32] ++ (nameL ss k ++ (58 :: letterL u)), isSign b = false) ∧ [111, 110, 32] ++ (nameL ss k ++ (58 :: letterL u)) ≠ []
    refine ⟨fun b hb => ?_, by simp⟩
    rcases List.mem_append.1 hb with hb | hb
    · exact (by decide : ∀ b ∈ ([111, 110, 32] : List UInt8), isSign b = false) b hb
    · rcases List.mem_append.1 hb with hb | hb
      · exact low_sign (hlow b hb)
      · rcases List.mem_cons.1 hb with rfl | hb
        · decide
        · exact hl u b hb
  · obtain ⟨hlow, _⟩ := name_at hg (hk1 (by decide))
    show (∀ b ∈ [102, 114, 111, 109, 32] ++ (nameL ss k ++ (58 :: letterL u)), isSign b = false) ∧ [102, 114, 111, 109, 32] ++ (nameL ss k ++ (58 :: letterL u)) ≠ []
    refine ⟨fun b hb => ?_, by simp⟩
    rcases List.mem_append.1 hb with hb | hb
    · exact (by decide : ∀ b ∈ ([102, 114, 111, 109, 32] : List UInt8), isSign b = false) b hb
    · rcases List.mem_append.1 hb with hb | hb
      · exact low_sign (hlow b hb)
      · rcases List.mem_cons.1 hb with rfl | hb
        · decide
        · exact hl u b hb
  · show (∀ b ∈ [115, 104, 97, 114, 101, 100, 58] ++ letterL u, isSign b = false) ∧ [115, 104, 97, 114, 101, 100, 58] ++ letterL u ≠ []
    refine ⟨fun b hb => ?_, by simp⟩
    rcases List.mem_append.1 hb with hb | hb
    · exact (by decide : ∀ b ∈ ([115, 104, 97, 114, 101, 100, 58] : List UInt8), isSign b = false) b hb
    · exact hl u b hb
  · show (∀ b ∈ [110, 101, 120, 116, 58] ++ (letterL u ++ letterL v), isSign b = false) ∧ [110, 101, 120, 116, 58] ++ (letterL u ++ letterL v) ≠ []
    refine ⟨fun b hb => ?_, by simp⟩
    rcases List.mem_append.1 hb with hb | hb
    · exact (by decide : ∀ b ∈ ([110, 101, 120, 116, 58] : List UInt8), isSign b = false) b hb
    · rcases List.mem_append.1 hb with hb | hb
      · exact hl u b hb
      · exact hl v b hb
  · show (∀ b ∈ [115, 97, 109, 101, 58] ++ (letterL u ++ letterL v), isSign b = false) ∧ [115, 97, 109, 101, 58] ++ (letterL u ++ letterL v) ≠ []
    refine ⟨fun b hb => ?_, by simp⟩
    rcases List.mem_append.1 hb with hb | hb
    · exact (by decide : ∀ b ∈ ([115, 97, 109, 101, 58] : List UInt8), isSign b = false) b hb
    · rcases List.mem_append.1 hb with hb | hb
      · exact hl u b hb
      · exact hl v b hb
  · show (∀ b ∈ [112, 97, 116, 104, 58] ++ (letterL u ++ letterL v), isSign b = false) ∧ [112, 97, 116, 104, 58] ++ (letterL u ++ letterL v) ≠ []
    refine ⟨fun b hb => ?_, by simp⟩
    rcases List.mem_append.1 hb with hb | hb
    · exact (by decide : ∀ b ∈ ([112, 97, 116, 104, 58] : List UInt8), isSign b = false) b hb
    · rcases List.mem_append.1 hb with hb | hb
      · exact hl u b hb
      · exact hl v b hb

theorem ends_nil : Ends [] := .inl rfl
theorem ends_at {b : UInt8} (l : List UInt8) (h : isSign b = true) (h' : b ≠ 46) : Ends (b :: l) := .inr ⟨b, l, rfl, h, h'⟩
theorem parts_bind {w : List UInt8} (hw : ∀ b ∈ w, isSign b = false) (hn : w ≠ []) (u : Int) (l : List UInt8) : partsOf ((w ++ (letterL u ++ [46])) ++ l) = (w ++ (letterL u ++ [46])) :: partsOf l := by
  refine parts_front (by simp) ?_
  rw [← List.append_assoc]
  refine plen_dot (h := w ++ letterL u) (fun b hb => ?_) l
  rcases List.mem_append.1 hb with hb | hb
  · exact hw b hb
  · exact low_sign (letter_low b hb)
theorem parts_one {b : UInt8} (hb : isSign b = true) (l : List UInt8) : partsOf (b :: l) = [b] :: partsOf l :=
  parts_front (h := [b]) (by simp) (plen_sign hb l)
theorem nil_of_arity {args : List Fm} {kd : Int} (h : (args.length : Int) = arityF kd) (hk : arityF kd = 0) : args = [] := by
  refine List.eq_nil_of_length_eq_zero ?_
  omega
theorem one_of_arity {args : List Fm} {kd : Int} (h : (args.length : Int) = arityF kd) (hk : arityF kd = 1) : ∃ a, args = [a] := by
  refine List.length_eq_one_iff.1 ?_
  omega
theorem two_of_arity {args : List Fm} {kd : Int} (h : (args.length : Int) = arityF kd) (hk : arityF kd = 2) : ∃ a b, args = [a, b] := by
  have h2 : args.length = 2 := by omega
  match args, h2 with
  | [a, b], _ => exact ⟨a, b, rfl⟩
/-- The parts of a text that is right are those of its formula. -/
theorem parts_text {ss : List ByteArray} (hg : goodVars ss = true) : ∀ t : Fm, t.formB ss.length = true → ∀ tail : List UInt8, Ends tail → partsOf (t.textL ss ++ tail) = t.partsT ss ++ partsOf tail := by
  apply Fm.ind
  intro t ih hf tail ht
  obtain ⟨hu1, hv1, hk0, hk1, hu, hv, har⟩ := fm_kind hf
  have hp := fm_parts hf
  have IH := fun y (hy : y ∈ t.args) => ih y hy (hp y hy)
  have hkinds := kind_range har
  rw [Fm.textL_eq, Fm.partsT_eq]
  obtain ⟨kd, k, u, v, args⟩ := t
  simp only [Fm.kd, Fm.k, Fm.u, Fm.v, Fm.args] at *
  clear ih hp hf
  rcases hkinds with rfl | rfl | rfl | rfl | rfl | rfl | rfl | rfl | rfl | rfl | rfl | rfl
  · obtain rfl := nil_of_arity har (by decide)
    have hh := head_len (u := u) (v := v) hg hk1 (by decide)
    exact parts_front hh.2 (plen_head hh.1 hh.2 ht)
  · obtain rfl := nil_of_arity har (by decide)
    have hh := head_len (u := u) (v := v) hg hk1 (by decide)
    exact parts_front hh.2 (plen_head hh.1 hh.2 ht)
  · obtain rfl := nil_of_arity har (by decide)
    have hh := head_len (u := u) (v := v) hg hk1 (by decide)
    exact parts_front hh.2 (plen_head hh.1 hh.2 ht)
  · obtain rfl := nil_of_arity har (by decide)
    have hh := head_len (u := u) (v := v) hg hk1 (by decide)
    exact parts_front hh.2 (plen_head hh.1 hh.2 ht)
  · obtain rfl := nil_of_arity har (by decide)
    have hh := head_len (u := u) (v := v) hg hk1 (by decide)
    exact parts_front hh.2 (plen_head hh.1 hh.2 ht)
  · obtain rfl := nil_of_arity har (by decide)
    have hh := head_len (u := u) (v := v) hg hk1 (by decide)
    exact parts_front hh.2 (plen_head hh.1 hh.2 ht)
  · obtain rfl := nil_of_arity har (by decide)
    have hh := head_len (u := u) (v := v) hg hk1 (by decide)
    exact parts_front hh.2 (plen_head hh.1 hh.2 ht)
  · obtain ⟨a, rfl⟩ := one_of_arity har (by decide)
    have h1 := IH a (by simp) tail ht
    show partsOf (33 :: (a.textL ss ++ tail)) = [33] :: a.partsT ss ++ partsOf tail
    rw [parts_one (by decide), h1]
    rfl
  · obtain ⟨a, c, rfl⟩ := two_of_arity har (by decide)
    have h1 := IH a (by simp) (38 :: (c.textL ss ++ 41 :: tail)) (ends_at _ (by decide) (by decide))
    have h2 := IH c (by simp) (41 :: tail) (ends_at _ (by decide) (by decide))
    have e : nodeL ss 9 k u v ([a, c].map (Fm.textL ss)) ++ tail = 40 :: (a.textL ss ++ (38 :: (c.textL ss ++ 41 :: tail))) := by
      show 40 :: (a.textL ss ++ (38 :: (c.textL ss ++ [41]))) ++ tail = _
      simp
    rw [e, parts_one (by decide), h1, parts_one (by decide), h2, parts_one (by decide)]
    show _ = [40] :: (a.partsT ss ++ ([38] :: (c.partsT ss ++ [[41]]))) ++ partsOf tail
    simp
  · obtain ⟨a, c, rfl⟩ := two_of_arity har (by decide)
    have h1 := IH a (by simp) (124 :: (c.textL ss ++ 41 :: tail)) (ends_at _ (by decide) (by decide))
    have h2 := IH c (by simp) (41 :: tail) (ends_at _ (by decide) (by decide))
    have e : nodeL ss 10 k u v ([a, c].map (Fm.textL ss)) ++ tail = 40 :: (a.textL ss ++ (124 :: (c.textL ss ++ 41 :: tail))) := by
      show 40 :: (a.textL ss ++ (124 :: (c.textL ss ++ [41]))) ++ tail = _
      simp
    rw [e, parts_one (by decide), h1, parts_one (by decide), h2, parts_one (by decide)]
    show _ = [40] :: (a.partsT ss ++ ([124] :: (c.partsT ss ++ [[41]]))) ++ partsOf tail
    simp
  · obtain ⟨a, rfl⟩ := one_of_arity har (by decide)
    have h1 := IH a (by simp) tail ht
    have e : nodeL ss 11 k u v ([a].map (Fm.textL ss)) ++ tail = ([115, 111, 109, 101, 32] ++ (letterL u ++ [46])) ++ (a.textL ss ++ tail) := by
      show [115, 111, 109, 101, 32] ++ (letterL u ++ (46 :: a.textL ss)) ++ tail = _
      simp
    rw [e, parts_bind (by decide) (by decide), h1]
    rfl
  · obtain ⟨a, rfl⟩ := one_of_arity har (by decide)
    have h1 := IH a (by simp) tail ht
    have e : nodeL ss 12 k u v ([a].map (Fm.textL ss)) ++ tail = ([97, 108, 108, 32] ++ (letterL u ++ [46])) ++ (a.textL ss ++ tail) := by
      show [97, 108, 108, 32] ++ (letterL u ++ (46 :: a.textL ss)) ++ tail = _
      simp
    rw [e, parts_bind (by decide) (by decide), h1]
    rfl

/-- The guess of a formula: the formula, and the parts that are left. -/
def guessF (ss : List ByteArray) : Nat → List (List UInt8) → Fm × List (List UInt8)
  | 0, ps => (guessN ss [], ps)
  | _ + 1, [] => (guessN ss [], [])
  | n + 1, p :: ps =>
    if p = [40] then
      (.mk (place formWords ⟨((guessF ss n ps).2.headD []).toArray⟩) 0 0 0 [(guessF ss n ps).1, (guessF ss n (guessF ss n ps).2.tail).1], (guessF ss n (guessF ss n ps).2.tail).2.tail)
    else if arityF (guessN ss p).kd = 1 then (.mk (guessN ss p).kd (guessN ss p).k (guessN ss p).u (guessN ss p).v [(guessF ss n ps).1], (guessF ss n ps).2)
    else (guessN ss p, ps)
theorem guessF_leaf {ss : List ByteArray} {n : Nat} {p : List UInt8} {ps : List (List UInt8)} (h : p ≠ [40]) (ha : arityF (guessN ss p).kd ≠ 1) : guessF ss (n + 1) (p :: ps) = (guessN ss p, ps) := by
  rw [guessF, if_neg h, if_neg ha]
theorem guessF_one {ss : List ByteArray} {n : Nat} {p : List UInt8} {ps qs : List (List UInt8)} {f : Fm} (h : p ≠ [40]) (ha : arityF (guessN ss p).kd = 1) (h1 : guessF ss n ps = (f, qs)) : guessF ss (n + 1) (p :: ps) = (.mk (guessN ss p).kd (guessN ss p).k (guessN ss p).u (guessN ss p).v [f], qs) := by
  rw [guessF, if_neg h, if_pos ha, h1]
theorem guessF_two {ss : List ByteArray} {n : Nat} {ps qs rs : List (List UInt8)} {f g : Fm} (h1 : guessF ss n ps = (f, qs)) (h2 : guessF ss n qs.tail = (g, rs)) : guessF ss (n + 1) ([40] :: ps) = (.mk (place formWords ⟨(qs.headD []).toArray⟩) 0 0 0 [f, g], rs.tail) := by
  rw [guessF, if_pos rfl, h1]
  simp only [h2]
/-- A guess leaves at most what it was given, and has at most two nodes for each part that it took, and one more. -/
theorem guessF_size (ss : List ByteArray) : ∀ (n : Nat) (ps : List (List UInt8)), (guessF ss n ps).2.length ≤ ps.length ∧ (guessF ss n ps).1.size + 2 * (guessF ss n ps).2.length ≤ 2 * ps.length + 1 ∧ (ps ≠ [] → 0 < n → (guessF ss n ps).2.length + 1 ≤ ps.length) := by
  have l0 : ∀ l, (guessN ss l).size = 1 := by
    intro l
    unfold guessN
    simp only
    repeat' split
    all_goals rfl
  have l2 : ∀ kd k u v a, (Fm.mk kd k u v [a]).size = a.size + 1 := fun _ _ _ _ _ => rfl
  have l3 : ∀ kd k u v a b, (Fm.mk kd k u v [a, b]).size = a.size + b.size + 1 := fun _ _ _ _ _ _ => rfl
  intro n
  induction n with
  | zero =>
    intro ps
    show ps.length ≤ ps.length ∧ (guessN ss []).size + 2 * ps.length ≤ 2 * ps.length + 1 ∧ _
    rw [l0]
    exact ⟨by omega, by omega, fun _ h => by omega⟩
  | succ n ih =>
    intro ps
    cases ps with
    | nil =>
      show 0 ≤ 0 ∧ (guessN ss []).size + 0 ≤ 1 ∧ _
      rw [l0]
      exact ⟨by omega, by omega, fun h => (h rfl).elim⟩
    | cons p ps =>
      by_cases hp : p = [40]
      · subst hp
        obtain ⟨f, qs, h1⟩ : ∃ f qs, guessF ss n ps = (f, qs) := ⟨_, _, rfl⟩
        obtain ⟨g, rs, h2⟩ : ∃ g rs, guessF ss n qs.tail = (g, rs) := ⟨_, _, rfl⟩
        have i1 := ih ps
        have i2 := ih qs.tail
        rw [h1] at i1
        rw [h2] at i2
        rw [guessF_two h1 h2]
        simp only [l3, List.length_cons, List.length_tail] at *
        exact ⟨by omega, by omega, fun _ _ => by omega⟩
      · by_cases ha : arityF (guessN ss p).kd = 1
        · obtain ⟨f, qs, h1⟩ : ∃ f qs, guessF ss n ps = (f, qs) := ⟨_, _, rfl⟩
          have i1 := ih ps
          rw [h1] at i1
          rw [guessF_one hp ha h1]
          simp only [l2, List.length_cons] at *
          exact ⟨by omega, by omega, fun _ _ => by omega⟩
        · rw [guessF_leaf hp ha]
          simp only [l0, List.length_cons]
          exact ⟨by omega, by omega, fun _ _ => by omega⟩
theorem kind_leaf {ss : List ByteArray} (hg : goodVars ss = true) {kd k u v : Int} {ps : List (List UInt8)} (n : Nat) (hu1 : usesF kd < 1 → u = 0) (hv1 : usesF kd < 2 → v = 0) (hk0 : ¬ (kd = 2 ∨ kd = 3) → k = 0) (hk1 : kd = 2 ∨ kd = 3 → 0 ≤ k ∧ k < ss.length) (hu : 0 ≤ u ∧ u ≤ 3) (hv : 0 ≤ v ∧ v ≤ 3)
    (hkd : kd = 1 ∨ kd = 2 ∨ kd = 3 ∨ kd = 4 ∨ kd = 5 ∨ kd = 6 ∨ kd = 7) : guessF ss (n + 1) (nodeL ss kd k u v [] :: ps) = (.mk kd k u v [], ps) := by
  have h1 := guess_node hg hu1 hv1 hk0 hk1 hu hv (by omega)
  have hh := head_len (u := u) (v := v) hg hk1 hkd
  rw [guessF_leaf (fun e => by have := hh.1 40 (by rw [e]; simp); simp [isSign] at this) (by rw [h1]; show ¬ arityF kd = 1; unfold arityF; rw [if_pos (by omega)]; omega), h1]
theorem kind_one {ss : List ByteArray} (hg : goodVars ss = true) {kd k u v : Int} {ps qs : List (List UInt8)} {f : Fm} (n : Nat) (hu1 : usesF kd < 1 → u = 0) (hv1 : usesF kd < 2 → v = 0) (hk0 : ¬ (kd = 2 ∨ kd = 3) → k = 0) (hk1 : kd = 2 ∨ kd = 3 → 0 ≤ k ∧ k < ss.length) (hu : 0 ≤ u ∧ u ≤ 3) (hv : 0 ≤ v ∧ v ≤ 3)
    (hkd : kd = 8 ∨ kd = 11 ∨ kd = 12) (h : guessF ss n ps = (f, qs)) : guessF ss (n + 1) (nodeL ss kd k u v [] :: ps) = (.mk kd k u v [f], qs) := by
  have h1 := guess_node hg hu1 hv1 hk0 hk1 hu hv (by omega)
  have hne : nodeL ss kd k u v [] ≠ [40] := by
    rcases hkd with rfl | rfl | rfl
    · exact (by decide : ([33] : List UInt8) ≠ [40])
    · show [115, 111, 109, 101, 32] ++ (letterL u ++ (46 :: [])) ≠ [40]
      simp
    · show [97, 108, 108, 32] ++ (letterL u ++ (46 :: [])) ≠ [40]
      simp
  rw [guessF_one hne (by rw [h1]; rcases hkd with rfl | rfl | rfl <;> rfl) h, h1]
  rfl
/-- The parts of a formula are read back. -/
theorem guess_parts {ss : List ByteArray} (hg : goodVars ss = true) : ∀ t : Fm, t.formB ss.length = true → ∀ (n : Nat) (tail : List (List UInt8)), t.depth ≤ n → guessF ss n (t.partsT ss ++ tail) = (t, tail) := by
  apply Fm.ind
  intro t ih hf n tail hn
  obtain ⟨hu1, hv1, hk0, hk1, hu, hv, har⟩ := fm_kind hf
  have hp := fm_parts hf
  have hd1 := Fm.depth_eq t
  obtain ⟨m, rfl⟩ : ∃ m, n = m + 1 := ⟨n - 1, by omega⟩
  have IH := fun y (hy : y ∈ t.args) tail => ih y hy (hp y hy) m tail (by have := depth_part hy; omega)
  have hkinds := kind_range har
  rw [Fm.partsT_eq]
  obtain ⟨kd, k, u, v, args⟩ := t
  simp only [Fm.kd, Fm.k, Fm.u, Fm.v, Fm.args] at *
  clear ih hp hd1 hn hf
  by_cases h7 : kd = 1 ∨ kd = 2 ∨ kd = 3 ∨ kd = 4 ∨ kd = 5 ∨ kd = 6 ∨ kd = 7
  · have ha : arityF kd = 0 := by unfold arityF; rw [if_pos (by omega)]
    obtain rfl := nil_of_arity har ha
    have e : nodeQ ss kd k u v (([] : List Fm).map (Fm.partsT ss)) ++ tail = nodeL ss kd k u v [] :: tail := by
      unfold nodeQ
      rw [if_neg (by omega), if_neg (by omega)]
      rfl
    rw [e]
    exact kind_leaf hg m hu1 hv1 hk0 hk1 hu hv h7
  · by_cases h8 : kd = 8 ∨ kd = 11 ∨ kd = 12
    · have ha : arityF kd = 1 := by rcases h8 with rfl | rfl | rfl <;> rfl
      obtain ⟨a, rfl⟩ := one_of_arity har ha
      have e : nodeQ ss kd k u v ([a].map (Fm.partsT ss)) ++ tail = nodeL ss kd k u v [] :: (a.partsT ss ++ tail) := by
        unfold nodeQ
        rw [if_neg (by omega), if_neg (by omega)]
        rfl
      rw [e]
      exact kind_one hg m hu1 hv1 hk0 hk1 hu hv h8 (IH a (by simp) tail)
    · rcases (by omega : kd = 9 ∨ kd = 10) with rfl | rfl
      · obtain ⟨a, c, rfl⟩ := two_of_arity har (by decide)
        obtain rfl := hu1 (by decide)
        obtain rfl := hv1 (by decide)
        obtain rfl := hk0 (by decide)
        have e : nodeQ ss 9 0 0 0 ([a, c].map (Fm.partsT ss)) ++ tail = [40] :: (a.partsT ss ++ ([38] :: (c.partsT ss ++ ([41] :: tail)))) := by
          show [40] :: (a.partsT ss ++ ([38] :: (c.partsT ss ++ [[41]]))) ++ tail = _
          simp
        rw [e, guessF_two (IH a (by simp) _) (IH c (by simp) _)]
        show (Fm.mk (place formWords ⟨([38] : List UInt8).toArray⟩) 0 0 0 [a, c], tail) = _
        rw [place_word (n := 9) rfl]
      · obtain ⟨a, c, rfl⟩ := two_of_arity har (by decide)
        obtain rfl := hu1 (by decide)
        obtain rfl := hv1 (by decide)
        obtain rfl := hk0 (by decide)
        have e : nodeQ ss 10 0 0 0 ([a, c].map (Fm.partsT ss)) ++ tail = [40] :: (a.partsT ss ++ ([124] :: (c.partsT ss ++ ([41] :: tail)))) := by
          show [40] :: (a.partsT ss ++ ([124] :: (c.partsT ss ++ [[41]]))) ++ tail = _
          simp
        rw [e, guessF_two (IH a (by simp) _) (IH c (by simp) _)]
        show (Fm.mk (place formWords ⟨([124] : List UInt8).toArray⟩) 0 0 0 [a, c], tail) = _
        rw [place_word (n := 10) rfl]

/-- The number of parts of a formula. -/
theorem parts_count {ss : List ByteArray} : ∀ t : Fm, t.formB ss.length = true → (t.partsT ss).length ≤ 3 * t.size := by
  apply Fm.ind
  intro t ih hf
  have hp := fm_parts hf
  obtain ⟨_, _, _, _, _, _, har⟩ := fm_kind hf
  have hkinds := kind_range har
  have IH := fun y (hy : y ∈ t.args) => ih y hy (hp y hy)
  rw [Fm.partsT_eq]
  obtain ⟨kd, k, u, v, args⟩ := t
  simp only [Fm.kd, Fm.k, Fm.u, Fm.v, Fm.args] at *
  have l1 : ∀ kd k u v, (Fm.mk kd k u v []).size = 1 := fun _ _ _ _ => rfl
  have l2 : ∀ kd k u v a, (Fm.mk kd k u v [a]).size = a.size + 1 := fun _ _ _ _ _ => rfl
  have l3 : ∀ kd k u v a b, (Fm.mk kd k u v [a, b]).size = a.size + b.size + 1 := fun _ _ _ _ _ _ => rfl
  clear ih hp hf
  by_cases h7 : kd = 1 ∨ kd = 2 ∨ kd = 3 ∨ kd = 4 ∨ kd = 5 ∨ kd = 6 ∨ kd = 7
  · have ha : arityF kd = 0 := by unfold arityF; rw [if_pos (by omega)]
    obtain rfl := nil_of_arity har ha
    unfold nodeQ
    rw [if_neg (by omega), if_neg (by omega), l1]
    simp
  · by_cases h8 : kd = 8 ∨ kd = 11 ∨ kd = 12
    · have ha : arityF kd = 1 := by rcases h8 with rfl | rfl | rfl <;> rfl
      obtain ⟨a, rfl⟩ := one_of_arity har ha
      have := IH a (by simp)
      unfold nodeQ
      rw [if_neg (by omega), if_neg (by omega), l2]
      simp only [List.map_cons, List.map_nil, List.getD_cons_zero, List.length_cons]
      omega
    · have h9 : kd = 9 ∨ kd = 10 := by omega
      have ha : arityF kd = 2 := by rcases h9 with rfl | rfl <;> rfl
      obtain ⟨a, c, rfl⟩ := two_of_arity har ha
      have h1 := IH a (by simp)
      have h2 := IH c (by simp)
      unfold nodeQ
      rw [l3]
      rcases h9 with rfl | rfl <;> simp <;> omega
/-- The program's guess of a text. -/
def guessT (ss : List ByteArray) (l : List UInt8) : Fm := (guessF ss 121 ((partsOf l).take 121)).1
theorem guess_right {ss : List ByteArray} {s : ByteArray} {t : Fm} (h : s ≠ ⟨#[]⟩) (ht : fmText ss t = s) : guessT ss s.data.toList = t := by
  unfold fmText at ht
  by_cases hg : goodVars ss = true ∧ isFmB ss.length t = true
  · rw [if_pos hg] at ht
    have hf := form_parts hg.2
    have hd : t.depth ≤ 12 := by
      have := hg.2
      unfold isFmB at this
      simp only [Bool.and_eq_true, decide_eq_true_eq] at this
      exact this.2.1
    have h1 := parts_text hg.1 t hf.1 [] ends_nil
    rw [List.append_nil, ← text_list, ht, partsOf_nil] at h1
    have h2 := parts_count t hf.1
    have h3 := guess_parts hg.1 t hf.1 121 [] (by omega)
    unfold guessT
    rw [h1, List.take_of_length_le (by rw [List.append_nil]; omega), h3]
  · rw [if_neg hg] at ht
    exact (h ht.symm).elim
theorem guess_size (ss : List ByteArray) (l : List UInt8) : (guessT ss l).size ≤ 243 := by
  have h := (guessF_size ss 121 ((partsOf l).take 121)).2.1
  have h2 : ((partsOf l).take 121).length ≤ 121 := by rw [List.length_take]; omega
  unfold guessT
  omega
end Go.Proofs.YtplchhahjmoodaaGreatDoor
/-
  The program's partLength and cutWord; strings.Cut at a colon.
-/
namespace Go.Proofs.YtplchhahjmoodaaGreatDoor
open Go Go.RowKit

/-- The cell that the library's Cut reads. -/
def SwC (w : World) : Prop := ∃ m : Int, w.cell? ⟨1, 0, none⟩ = some (.int .i64 m)
theorem swC_of {w : World} (h : w.ShapedOpen Tryz.prog) : SwC w := Tryz.laysM145.s1_3 w h
theorem SwC.keeps {w w' : World} (h : SwC w) (hb : Below w.heap.size w w') : SwC w' := by
  obtain ⟨m, hm⟩ := h
  refine ⟨m, (hb.cell ?_).trans hm⟩
  exact World.block_lt_of_cell? w _ hm

theorem idxP_cases (p : UInt8 → Bool) (l : List UInt8) : (l.findIdx? p = none ∧ idxP p l = -1) ∨ ∃ e, l.findIdx? p = some e ∧ idxP p l = (e : Int) ∧ e < l.length := by
  unfold idxP
  cases h : l.findIdx? p with
  | none => exact .inl ⟨rfl, rfl⟩
  | some e => exact .inr ⟨e, rfl, rfl, sign_lt h⟩
theorem signs_ascii : ∀ k (h : k < (⟨#[33, 40, 38, 124, 41, 46]⟩ : ByteArray).size), ((⟨#[33, 40, 38, 124, 41, 46]⟩ : ByteArray)[k]'h).toNat < 128 := by
  intro k h
  have h6 : k < 6 := h
  match k, h6 with
  | 0, _ => exact (by decide : (33 : UInt8).toNat < 128)
  | 1, _ => exact (by decide : (40 : UInt8).toNat < 128)
  | 2, _ => exact (by decide : (38 : UInt8).toNat < 128)
  | 3, _ => exact (by decide : (124 : UInt8).toNat < 128)
  | 4, _ => exact (by decide : (41 : UInt8).toNat < 128)
  | 5, _ => exact (by decide : (46 : UInt8).toNat < 128)
theorem words_ascii : ∀ k (h : k < (⟨#[32, 58]⟩ : ByteArray).size), ((⟨#[32, 58]⟩ : ByteArray)[k]'h).toNat < 128 := by
  intro k h
  have h6 : k < 2 := h
  match k, h6 with
  | 0, _ => exact (by decide : (32 : UInt8).toNat < 128)
  | 1, _ => exact (by decide : (58 : UInt8).toNat < 128)
theorem byte_at {s : ByteArray} {e : Nat} (h : e < s.size) : s.extract e (e + 1) = ⟨#[s[e]'h]⟩ := by
  apply ByteArray.ext
  apply Array.toList_inj.1
  have hl : e < s.data.toList.length := by simpa using h
  have h1 : (s.extract e (e + 1)).data.toList = (s.data.toList.drop e).take 1 := by simp
  rw [h1, List.drop_eq_getElem_cons hl]
  rfl
set_option maxRecDepth 100000 in
set_option maxHeartbeats 1600000 in
theorem implPartLength (s : ByteArray) (w : World) (hs : s.size ≤ 1048576) :
    Calls Tryz.prog 117 #[.string s] w fun e w' => e = .returned (.int .i64 (plen s.data.toList : Int)) ∧ Below w.heap.size w w' := by
  have hA := libIndexAny s ⟨#[33, 40, 38, 124, 41, 46]⟩ w (by decide) (by decide) hs signs_ascii
  have he : (fun b => (⟨#[33, 40, 38, 124, 41, 46]⟩ : ByteArray).data.toList.contains b) = isSign := rfl
  unfold AnyEnd at hA
  rw [he] at hA
  have HA := Lib.hid hA
  have hls : s.data.toList.length = s.size := by simp
  clear hA he
  rcases idxP_cases isSign s.data.toList with ⟨hf, hi⟩ | ⟨e, hf, hi, hlt⟩
  · rw [hi] at HA
    have HE := Lib.hid (show (plen s.data.toList : Int) = (s.size : Int) by rw [plen_none hf, hls])
    clear hf hi hls
    go_enter Tryz.func117, Tryz.ntmps117
    go_wp2_with fail
    refine HA.out.mono ?_
    rintro e w1 ⟨rfl, hb1⟩
    go_wp2
    go_ret
    exact ⟨by rw [HE.out]; rfl, hb1⟩
  · rw [hi] at HA
    have hes : e < s.size := by omega
    by_cases h0 : e = 0
    · subst h0
      have HE := Lib.hid (show (plen s.data.toList : Int) = 1 by rw [plen_some hf, if_pos (.inl rfl)]; rfl)
      clear hf hi hls hlt
      go_enter Tryz.func117, Tryz.ntmps117
      go_wp2_with fail
      refine HA.out.mono ?_
      rintro e w1 ⟨rfl, hb1⟩
      go_wp2
      go_ret
      exact ⟨by rw [HE.out]; rfl, hb1⟩
    · have hd0 : ((e : Int) == 0) = false := beq_eq_false_iff_ne.2 (by omega)
      have hneg : ¬ (e : Int) < 0 := by omega
      have hx := byte_at hes
      have hle : s.data.toList[e]? = some (s[e]'hes) := by
        rw [List.getElem?_eq_getElem (by omega)]
        rfl
      have hsl : ∀ V : World, (Instr.slice 9 (.string s) (some (.int .i64 (e : Int))) (some (.int .i64 ((e : Int) + 1))) none).run Tryz.prog V = .ok (.string ⟨#[s[e]'hes]⟩) V := fun V => by
        have h1 := run_slice_string (P := Tryz.prog) V 9 s .i64 .i64 (e : Int) ((e : Int) + 1) Tryz.underlying9 (by omega) (by omega) (by omega)
        have e1 : ((e : Int)).toNat = e := by omega
        have e2 : ((e : Int) + 1).toNat = e + 1 := by omega
        rw [e1, e2, hx] at h1
        exact h1
      by_cases h46 : (s[e]'hes) = 46
      · have HE := Lib.hid (show (plen s.data.toList : Int) = (e : Int) + 1 by rw [plen_some hf, if_pos (.inr (by rw [hle, h46]))]; rfl)
        rw [h46] at hsl
        clear hf hi hls hlt hx hle h46
        go_enter Tryz.func117, Tryz.ntmps117
        go_wp2_with fail
        refine HA.out.mono ?_
        rintro e w1 ⟨rfl, hb1⟩
        go_wp2
        go_ret
        exact ⟨by rw [HE.out]; rfl, hb1⟩
      · have HE := Lib.hid (show (plen s.data.toList : Int) = (e : Int) by rw [plen_some hf, if_neg (by rintro (h | h); exact h0 h; rw [hle] at h; exact h46 (Option.some.inj h))])
        have hc : ¬ (s[e]'hes) = 46 := h46
        generalize s[e]'hes = c at *
        have hcs : (c == 46) = false := beq_eq_false_iff_ne.2 hc
        clear hf hi hls hlt hx hle h46
        go_enter Tryz.func117, Tryz.ntmps117
        go_wp2_with fail
        refine HA.out.mono ?_
        rintro e w1 ⟨rfl, hb1⟩
        go_wp2
        go_ret
        exact ⟨by rw [HE.out]; rfl, hb1⟩
theorem cutW_idx (l : List UInt8) : (l.findIdx? (fun b => b == 32 || b == 58) = none ∧ cutW l = (l, [])) ∨ ∃ e, l.findIdx? (fun b => b == 32 || b == 58) = some e ∧ cutW l = (l.take e, l.drop (e + 1)) ∧ e < l.length := by
  unfold cutW
  cases h : l.findIdx? (fun b => b == 32 || b == 58) with
  | none => exact .inl ⟨rfl, rfl⟩
  | some e => exact .inr ⟨e, rfl, rfl, sign_lt h⟩
theorem extract_list (s : ByteArray) (i j : Nat) : (⟨((s.data.toList.drop i).take (j - i)).toArray⟩ : ByteArray) = s.extract i j := by
  apply ByteArray.ext
  apply Array.toList_inj.1
  simp
set_option maxRecDepth 100000 in
set_option maxHeartbeats 1600000 in
theorem implCutWord (s : ByteArray) (w : World) (hs : s.size ≤ 1048576) :
    Calls Tryz.prog 133 #[.string s] w fun e w' => e = .returned (.tuple #[.string ⟨(cutW s.data.toList).1.toArray⟩, .string ⟨(cutW s.data.toList).2.toArray⟩]) ∧ Below w.heap.size w w' := by
  have hA := libIndexAny s ⟨#[32, 58]⟩ w (by decide) (by decide) hs words_ascii
  have he : (fun b => (⟨#[32, 58]⟩ : ByteArray).data.toList.contains b) = fun b => b == 32 || b == 58 := by
    funext b
    show [32, 58].contains b = _
    rw [Bool.eq_iff_iff]
    simp
  unfold AnyEnd at hA
  rw [he] at hA
  have HA := Lib.hid hA
  have hls : s.data.toList.length = s.size := by simp
  clear hA he
  rcases cutW_idx s.data.toList with ⟨hf, hi⟩ | ⟨e, hf, hi, hlt⟩
  · have HI := Lib.hid (show idxP (fun b => b == 32 || b == 58) s.data.toList = -1 by unfold idxP; rw [hf])
    rw [HI.out] at HA
    have h1 : (⟨(cutW s.data.toList).1.toArray⟩ : ByteArray) = s := by rw [hi]
    have h2 : (⟨(cutW s.data.toList).2.toArray⟩ : ByteArray) = ⟨#[]⟩ := by rw [hi]
    rw [h1, h2]
    clear hf hi hls h1 h2
    go_enter Tryz.func133, Tryz.ntmps133
    go_wp2_with fail
    refine HA.out.mono ?_
    rintro e w1 ⟨rfl, hb1⟩
    go_wp2
    exact bodyPost_ret (v := .tuple #[.string s, .string ⟨#[]⟩]) (by simp [results, Tryz.results133, go_sem]) rfl ⟨rfl, hb1⟩
  · have HI := Lib.hid (show idxP (fun b => b == 32 || b == 58) s.data.toList = (e : Int) by unfold idxP; rw [hf])
    rw [HI.out] at HA
    have hes : e < s.size := by omega
    have hneg : ¬ (e : Int) < 0 := by omega
    have h1 : (⟨(cutW s.data.toList).1.toArray⟩ : ByteArray) = s.extract 0 e := by rw [hi, ← extract_list]; simp
    have h2 : (⟨(cutW s.data.toList).2.toArray⟩ : ByteArray) = s.extract (e + 1) s.size := by
      have ht : (s.data.toList.drop (e + 1)).take (s.size - (e + 1)) = s.data.toList.drop (e + 1) := List.take_of_length_le (by rw [List.length_drop]; omega)
      rw [hi, ← extract_list, ht]
    rw [h1, h2]
    have hsl1 : ∀ V : World, (Instr.slice 9 (.string s) none (some (.int .i64 (e : Int))) none).run Tryz.prog V = .ok (.string (s.extract 0 e)) V := fun V => by
      have h1 := run_slice_string_h (P := Tryz.prog) (w := V) 9 s Tryz.underlying9 .i64 (e : Int) (by omega) (by omega)
      have e1 : ((e : Int)).toNat = e := by omega
      rw [e1] at h1
      exact h1
    have hsl2 : ∀ V : World, (Instr.slice 9 (.string s) (some (.int .i64 ((e : Int) + 1))) none none).run Tryz.prog V = .ok (.string (s.extract (e + 1) s.size)) V := fun V => by
      have h1 := run_slice_string_l (P := Tryz.prog) (w := V) 9 s Tryz.underlying9 .i64 ((e : Int) + 1) (by omega) (by omega)
      have e1 : ((e : Int) + 1).toNat = e + 1 := by omega
      rw [e1] at h1
      exact h1
    have hwp : IntKind.i64.wrap ((e : Int) + 1) = (e : Int) + 1 := wrap_next (by omega)
    clear hf hi hls hlt h1 h2
    go_enter Tryz.func133, Tryz.ntmps133
    go_wp2_with fail
    refine HA.out.mono ?_
    rintro e w1 ⟨rfl, hb1⟩
    go_wp2_with fail
    go_quiet (fail)
    go_wp2
    exact bodyPost_ret (v := .tuple #[.string (s.extract 0 e), .string (s.extract (e + 1) s.size)]) (by simp [results, Tryz.results133, go_sem]) rfl ⟨rfl, below_draws hb1 _⟩
theorem index_colon : ∀ l : List UInt8, Lib.index l [58] = idxP (fun b => b == 58) l
  | [] => rfl
  | b :: l => by
    rw [Lib.index, idxP_cons, index_colon l]
    have hp : ([58] : List UInt8).isPrefixOf (b :: l) = (b == 58) := by
      simp only [List.isPrefixOf, Bool.and_true]
      rw [Bool.eq_iff_iff, beq_iff_eq, beq_iff_eq]
      exact eq_comm
    rw [hp]
    by_cases h : (b == 58) = true
    · rw [if_pos h, if_pos h]
    · rw [if_neg h, if_neg h]
      simp only [beq_iff_eq]
theorem lib_cut (l : List UInt8) : (Lib.cut l [58]).1 = (cutC l).1 ∧ (Lib.cut l [58]).2.1 = (cutC l).2 := by
  unfold Lib.cut cutC
  rw [index_colon]
  rcases idxP_cases (fun b => b == 58) l with ⟨hf, hi⟩ | ⟨e, hf, hi, _⟩
  · rw [hi, hf, if_neg (by omega)]
    exact ⟨rfl, rfl⟩
  · rw [hi, hf, if_pos (by omega)]
    have e1 : ((e : Int)).toNat = e := by omega
    rw [e1]
    exact ⟨rfl, rfl⟩
end Go.Proofs.YtplchhahjmoodaaGreatDoor
