/-
  The program's ParseInt and ParseNumber: the number whose numeral the string is, and true; else the panic is recovered: 0 and false.
-/
import Derived.Test.YtabedmjaodinbaaGreatDoorReadInt
import Derived.Defers
import Derived.Recover
import Derived.Laws.Pointers
namespace Go.Proofs.YtabedmjaodinbaaGreatDoor
open Go Go.RowKit

/-- Two new variables, and whatever was done behind them that left them alone. -/
theorem two_vars {w w1 : World} {x y : Value} {t u : TypeId} (h : Below ((w.alloc (.cells #[x] t)).alloc (.cells #[y] u)).heap.size ((w.alloc (.cells #[x] t)).alloc (.cells #[y] u)) w1) :
    w1.cell? ⟨w.heap.size, 0, none⟩ = some x ∧ w1.frozen? ⟨w.heap.size, 0, none⟩ = false ∧ w1.cell? ⟨w.heap.size + 1, 0, none⟩ = some y ∧ w1.frozen? ⟨w.heap.size + 1, 0, none⟩ = false ∧ Below w.heap.size w w1 := by
  have hb0 : Below w.heap.size w ((w.alloc (.cells #[x] t)).alloc (.cells #[y] u)) := ((Below.refl _ _).alloc (Nat.le_refl _) _).alloc (by simp) _
  have hsz : ((w.alloc (.cells #[x] t)).alloc (.cells #[y] u)).heap.size = w.heap.size + 2 := by simp
  have e1 : (w.alloc (.cells #[x] t)).heap.size = w.heap.size + 1 := by simp
  refine ⟨?_, ?_, ?_, ?_, hb0.trans (h.mono (by omega))⟩
  · rw [h.cell (by show w.heap.size < _; omega), World.cell?_alloc_lt _ _ _ (by show w.heap.size < _; omega), World.cell?_alloc_at _ _ _ _ rfl]
    rfl
  · rw [h.frozen (by show w.heap.size < _; omega), ((Below.refl _ (w.alloc (.cells #[x] t))).alloc (Nat.le_refl _) _).frozen (by show w.heap.size < _; omega), World.frozen?_alloc_at _ _ _ _ rfl]
  · rw [h.cell (by show w.heap.size + 1 < _; omega), World.cell?_alloc_at _ _ _ _ (by rw [e1])]
    rfl
  · rw [h.frozen (by show w.heap.size + 1 < _; omega), World.frozen?_alloc_at _ _ _ _ (by rw [e1])]
theorem two_below {w : World} {x y : Value} {t u : TypeId} : Below w.heap.size w ((w.alloc (.cells #[x] t)).alloc (.cells #[y] u)) :=
  ((Below.refl _ _).alloc (Nat.le_refl _) _).alloc (by simp) _

/-- What the deferred closure does to a panic: it lays 0 and false. -/
theorem catchNumber_panic (p q : Addr) (x y : Value) (u : TypeId) (pv : Value) (older : List PanicEntry) (w : World) (hp : w.cell? p = some x) (hpf : w.frozen? p = false) (hq : (w.setCell p (.int .i64 0)).cell? q = some y) (hqf : w.frozen? q = false) :
    CallsD Tryz.prog 94 #[.pointer (some p), .pointer (some q)] (.panicking ({ v := .iface u pv, recovered := false } :: older)) w fun e u' w' =>
      e = .returned (.tuple #[]) ∧ u' = .panicking ({ v := .iface u pv, recovered := true } :: older) ∧ w' = (w.setCell p (.int .i64 0)).setCell q (.bool false) := by
  refine callsD_of_wpS Tryz.func94 rfl fun c₀ cs hu => ?_
  apply wpS_seq
  apply wpS_region
  simp [wpOpsS, go_sem, recoverD, hu, Tryz.ntmps94, Exit.thenS]
  refine wpS_cond (t := true) (by simp [Act.eval, Array.replicate]) ?_
  simp only [if_true]
  apply wpS_region
  simp [wpOpsS, go_sem, hp, hpf, hq, hqf, bodyPostS, results, Tryz.results94]
theorem catchNumber_idle (p q : Addr) (w : World) :
    CallsD Tryz.prog 94 #[.pointer (some p), .pointer (some q)] .returning w fun e u' w' => e = .returned (.tuple #[]) ∧ u' = .returning ∧ w' = w := by
  refine callsD_of_wpS Tryz.func94 rfl fun c₀ cs hu => ?_
  apply wpS_seq
  apply wpS_region
  simp [wpOpsS, go_sem, recoverD, hu, Tryz.ntmps94, Exit.thenS]
  refine wpS_cond (t := false) (by simp [Act.eval, Array.replicate]) ?_
  simp only [Bool.false_eq_true, if_false]
  refine wpS_of_wp (wp_skip ?_)
  cases c₀
  simp_all [bodyPostS, results, Tryz.results94]

set_option maxRecDepth 100000 in
theorem parseNumber_ok (s : ByteArray) (w : World) (hs : s.size ≤ 1099511627776) (hp : Pows w) (h : num 0 999999 s.data.toList = true) :
    Calls Tryz.prog 65 #[.string s] w (PairEnd 0 999999 s.data.toList w) := by
  have hmf : ∀ (fn : Fn) (first cap : Array Value) (w : World), (Instr.makeFunc fn first cap).run Tryz.prog w = .ok (.func fn first cap) w := fun _ _ _ _ => rfl
  have Hn := Lib.hid h
  clear h
  go_enter_defers Tryz.func65, Tryz.ntmps65
  go_wp2_with fail
  refine (readInt_ok s 0 999999 _ hs (by omega) (by omega) (hp.keeps two_below) Hn.out).mono ?_
  rintro e w1 ⟨rfl, hb⟩
  obtain ⟨hp0, hpf, hq0, hqf, hbw⟩ := two_vars hb
  clear hb
  go_wp2
  refine leaves_cons (f := 94) (args := #[.pointer (some ⟨w.heap.size, 0, none⟩), .pointer (some ⟨w.heap.size + 1, 0, none⟩)]) (by simp) (by simp [go_sem]) ?_
  refine (catchNumber_idle ⟨w.heap.size, 0, none⟩ ⟨w.heap.size + 1, 0, none⟩ _).mono ?_
  rintro e u' w'' ⟨rfl, rfl, rfl⟩
  have c1 : (w1.setCell ⟨w.heap.size, 0, none⟩ (.int .i64 (valOf s.data.toList))).cell? ⟨w.heap.size, 0, none⟩ = some (.int .i64 (valOf s.data.toList)) := World.cell?_setCell_same _ _ _ hp0
  have c2 : ((w1.setCell ⟨w.heap.size, 0, none⟩ (.int .i64 (valOf s.data.toList))).setCell ⟨w.heap.size + 1, 0, none⟩ (.bool true)).cell? ⟨w.heap.size + 1, 0, none⟩ = some (.bool true) := World.cell?_setCell_same _ _ _ ((World.cell?_setCell_other _ _ _ _ (by simp)).trans hq0)
  simp [Leaves, settle, results, Tryz.results65, go_sem, c1, c2]
  exact pair_good Hn.out rfl ((hbw.setCell (p := ⟨w.heap.size, 0, none⟩) (Nat.le_refl _) _).setCell (p := ⟨w.heap.size + 1, 0, none⟩) (by show w.heap.size ≤ w.heap.size + 1; omega) _)

set_option maxRecDepth 100000 in
theorem parseNumber_bad (s : ByteArray) (w : World) (hs : s.size ≤ 1099511627776) (hp : Pows w) (hst : Sents w) (h : num 0 999999 s.data.toList = false) :
    Calls Tryz.prog 65 #[.string s] w (PairEnd 0 999999 s.data.toList w) := by
  have hmf : ∀ (fn : Fn) (first cap : Array Value) (w : World), (Instr.makeFunc fn first cap).run Tryz.prog w = .ok (.func fn first cap) w := fun _ _ _ _ => rfl
  have Hn := Lib.hid h
  have Hst := Lib.hid hst
  clear h hst
  go_enter_defers Tryz.func65, Tryz.ntmps65
  go_wp2_with fail
  refine (readInt_bad s 0 999999 _ hs (by omega) (by omega) (hp.keeps two_below) (Hst.out.keeps two_below) Hn.out).mono ?_
  rintro e w1 ⟨pv, rfl, hb⟩
  obtain ⟨hp0, hpf, hq0, hqf, hbw⟩ := two_vars hb
  clear hb
  refine leaves_cons (f := 94) (args := #[.pointer (some ⟨w.heap.size, 0, none⟩), .pointer (some ⟨w.heap.size + 1, 0, none⟩)]) (by simp) (by simp [go_sem]) ?_
  refine (catchNumber_panic ⟨w.heap.size, 0, none⟩ ⟨w.heap.size + 1, 0, none⟩ _ _ _ pv [] _ hp0 hpf ((World.cell?_setCell_other _ _ _ _ (by simp)).trans hq0) hqf).mono ?_
  rintro e u' w'' ⟨rfl, rfl, rfl⟩
  have c1 : (w1.setCell ⟨w.heap.size, 0, none⟩ (.int .i64 0)).cell? ⟨w.heap.size, 0, none⟩ = some (.int .i64 0) := World.cell?_setCell_same _ _ _ hp0
  have c2 : ((w1.setCell ⟨w.heap.size, 0, none⟩ (.int .i64 0)).setCell ⟨w.heap.size + 1, 0, none⟩ (.bool false)).cell? ⟨w.heap.size + 1, 0, none⟩ = some (.bool false) := World.cell?_setCell_same _ _ _ ((World.cell?_setCell_other _ _ _ _ (by simp)).trans hq0)
  simp [Leaves, settle, results, Tryz.results65, go_sem, c1, c2]
  exact pair_bad Hn.out ((hbw.setCell (p := ⟨w.heap.size, 0, none⟩) (Nat.le_refl _) _).setCell (p := ⟨w.heap.size + 1, 0, none⟩) (by show w.heap.size ≤ w.heap.size + 1; omega) _)

theorem parseNumber (s : ByteArray) (w : World) (hs : s.size ≤ 1099511627776) (hp : Pows w) (hst : Sents w) :
    Calls Tryz.prog 65 #[.string s] w (PairEnd 0 999999 s.data.toList w) := by
  cases h : num 0 999999 s.data.toList with
  | true => exact parseNumber_ok s w hs hp h
  | false => exact parseNumber_bad s w hs hp hst h
end Go.Proofs.YtabedmjaodinbaaGreatDoor
