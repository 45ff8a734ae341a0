/-
  The text of a heap, in plain words; bounds.
-/
import Derived.Test.YtcddpcjanggfkaaDoorHeaps
import Derived.Test.YtcddpcjanggfkaaDoorJoinWords
import Derived.Test.YtcddpcjanggfkaaDoorImplIsHeap
import Derived.Lib.ItoaLen
import Derived.Laws.Concat
namespace Go.Proofs.YtcddpcjanggfkaaDoor
open Go Go.RowKit

def cellT (c : Int) : ByteArray := if c = -1 then ⟨#[45]⟩ else ⟨(Lib.itoa c).toArray⟩
def partV (s : ByteArray) (c : Int) : ByteArray := s ++ ⟨#[61]⟩ ++ cellT c
def partC (k : Nat) (c : Int) : ByteArray := (⟨(Lib.itoa (k : Int)).toArray⟩ : ByteArray) ++ ⟨#[62]⟩ ++ cellT c
def partsV (ss : List ByteArray) (vs : List Int) (n : Nat) : List ByteArray := (List.range n).map fun k => partV (ss.getD k ⟨#[]⟩) (vs.getD k 0)
def partsC (zs : List Int) (n : Nat) : List ByteArray := (List.range n).map fun k => partC k (zs.getD k 0)
theorem partsV_next (ss : List ByteArray) (vs : List Int) (k : Nat) (h1 : k < ss.length) (h2 : k < vs.length) : partsV ss vs (k + 1) = partsV ss vs k ++ [partV ss[k] vs[k]] := by
  simp [partsV, List.range_succ, h1, h2]
theorem partsC_next (zs : List Int) (k : Nat) (h : k < zs.length) : partsC zs (k + 1) = partsC zs k ++ [partC k zs[k]] := by
  simp [partsC, List.range_succ, h]
theorem partsV_length (ss : List ByteArray) (vs : List Int) (n : Nat) : (partsV ss vs n).length = n := by simp [partsV]
theorem partsC_length (zs : List Int) (n : Nat) : (partsC zs n).length = n := by simp [partsC]
def heapOk (ss : List ByteArray) (vs zs : List Int) : Bool := goodVars ss && heapB (ss.length : Int) vs zs
def heapT (ss : List ByteArray) (vs zs : List Int) : ByteArray := if heapOk ss vs zs = true then ⟨(jn (partsV ss vs ss.length ++ partsC zs zs.length) ⟨#[32]⟩).toArray⟩ else ⟨#[]⟩
theorem heapT_no {ss : List ByteArray} {vs zs : List Int} (h : heapOk ss vs zs = false) : heapT ss vs zs = ⟨#[]⟩ := by rw [heapT, if_neg (by simp [h])]
theorem heapT_yes {ss : List ByteArray} {vs zs : List Int} (h : heapOk ss vs zs = true) : heapT ss vs zs = ⟨(jn (partsV ss vs ss.length ++ partsC zs zs.length) ⟨#[32]⟩).toArray⟩ := by rw [heapT, if_pos h]

theorem cellT_size (c : Int) (h : -9223372036854775808 ≤ c ∧ c ≤ 9223372036854775807) : (cellT c).size ≤ 21 := by
  unfold cellT
  split
  · decide
  · have := Lib.itoa_length_le c h.1 h.2
    show (Lib.itoa c).length ≤ 21
    omega
theorem partV_size (s : ByteArray) (c : Int) (hs : s.size ≤ 2) (h : -9223372036854775808 ≤ c ∧ c ≤ 9223372036854775807) : (partV s c).size ≤ 24 := by
  have := cellT_size c h
  have h1 : (⟨#[61]⟩ : ByteArray).size = 1 := rfl
  simp only [partV, ByteArray.size_append, h1]
  omega
theorem partC_size (k : Nat) (c : Int) (hk : k ≤ 100) (h : -9223372036854775808 ≤ c ∧ c ≤ 9223372036854775807) : (partC k c).size ≤ 43 := by
  have := cellT_size c h
  have h1 : (⟨#[62]⟩ : ByteArray).size = 1 := rfl
  have h2 := Lib.itoa_length_le (k : Int) (by omega) (by omega)
  have h3 : (⟨(Lib.itoa (k : Int)).toArray⟩ : ByteArray).size = (Lib.itoa (k : Int)).length := rfl
  simp only [partC, ByteArray.size_append, h1, h3]
  omega
theorem total_small {ss : List ByteArray} {n : Nat} (h : ∀ s ∈ ss, s.size ≤ n) : total ss ≤ ss.length * n := by
  induction ss with
  | nil => simp [total]
  | cons s r ih =>
    have h1 := h s (by simp)
    have h2 := ih fun x hx => h x (by simp [hx])
    simp only [total, List.map_cons, List.sum_cons, List.length_cons, Nat.add_mul, Nat.one_mul] at h2 ⊢
    omega
/-- What a heap's text keeps to. -/
structure TextOk (ss : List ByteArray) (vs zs : List Int) : Prop where
  len : ss.length ≤ 4
  same : vs.length = ss.length
  cells : zs.length ≤ 6
  size : ∀ k (h : k < ss.length), ss[k].size ≤ 2
  v : ∀ k (h : k < vs.length), -1 ≤ vs[k] ∧ vs[k] ≤ 6
  z : ∀ k (h : k < zs.length), -1 ≤ zs[k] ∧ zs[k] ≤ 6
theorem textOk {ss : List ByteArray} {vs zs : List Int} (h : heapOk ss vs zs = true) : TextOk ss vs zs := by
  simp only [heapOk, Bool.and_eq_true] at h
  obtain ⟨hg, hh⟩ := h
  have hv := (of_decide_eq_true hg).2
  simp only [heapB, Bool.and_eq_true, decide_eq_true_eq] at hh
  obtain ⟨⟨⟨h1, h2⟩, _⟩, _⟩ := hh
  obtain ⟨g1, g2⟩ := goodH_parts h2
  have hb : ∀ c, (c = -1 ∨ isC zs c = true) → -1 ≤ c ∧ c ≤ 6 := fun c hc => by
    rcases hc with rfl | hc
    · omega
    · have := isC_iff.1 hc
      omega
  refine ⟨hv.2, by omega, h1.2.2.2, fun k hk => ?_, fun k hk => hb _ (goodB_at g1 (List.getElem_mem hk)), fun k hk => hb _ (goodB_at g2 (List.getElem_mem hk))⟩
  have := (vars_at hg hk).1
  simp only [goodName, decide_eq_true_eq] at this
  exact this.2.2
theorem parts_total {ss : List ByteArray} {vs zs : List Int} (h : TextOk ss vs zs) : total (partsV ss vs ss.length ++ partsC zs zs.length) ≤ 410 := by
  have h1 : total (partsV ss vs ss.length) ≤ (partsV ss vs ss.length).length * 24 := total_small fun s hs => by
    obtain ⟨k, hk, rfl⟩ := List.mem_map.1 hs
    have hk := List.mem_range.1 hk
    have hk' : k < vs.length := by rw [h.same]; exact hk
    have := h.v k hk'
    have e1 : ss.getD k ⟨#[]⟩ = ss[k] := by simp [hk]
    have e2 : vs.getD k 0 = vs[k] := by simp [hk']
    rw [e1, e2]
    exact partV_size _ _ (h.size k hk) (by omega)
  have h2 : total (partsC zs zs.length) ≤ (partsC zs zs.length).length * 43 := total_small fun s hs => by
    obtain ⟨k, hk, rfl⟩ := List.mem_map.1 hs
    have hk := List.mem_range.1 hk
    have := h.z k hk
    have := h.cells
    have e2 : zs.getD k 0 = zs[k] := by simp [hk]
    rw [e2]
    exact partC_size _ _ (by omega) (by omega)
  rw [partsV_length] at h1
  rw [partsC_length] at h2
  rw [total_append]
  have := h.len
  have := h.cells
  omega
end Go.Proofs.YtcddpcjanggfkaaDoor
