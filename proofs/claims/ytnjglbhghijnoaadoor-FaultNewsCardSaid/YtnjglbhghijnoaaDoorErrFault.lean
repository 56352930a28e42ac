/- Package fault by contracts: New, Wrap, Num, first, Call, Is at a chain of faults round a number, and at no error. -/
import Derived.Test.YtnjglbhghijnoaaDoorErrIs
import Derived.Defers
import Derived.Recover
import Derived.Laws.Pointers
namespace Go.Proofs.YtnjglbhghijnoaaDoor
open Go.RowKit Go.Extern.Stop Go.Stop Go.Extern

/-! ### New, Wrap -/
theorem New_zero (c : ByteArray) (w : World) : Calls Tryd.prog 8 #[.string c, .int .i64 0] w fun e w' => e = .returned .nilIface ∧ w = w' := by
  go_enter Tryd.func8, Tryd.ntmps8
  go_wp2
  go_ret
  exact ⟨rfl, rfl⟩

theorem New_some (c : ByteArray) (n : Int) (hn : n ≠ 0) (w : World) : Calls Tryd.prog 8 #[.string c, .int .i64 n] w fun e w' =>
    e = .returned (.iface 44 (.pointer (some ⟨w.heap.size, 0, none⟩))) ∧ w.alloc (.cells #[.string c, .iface 25 (.int .i64 n)] 46) = w' := by
  have hb : (n == 0) = false := by simpa using hn
  go_enter Tryd.func8, Tryd.ntmps8
  go_wp2
  go_ret
  exact ⟨rfl, rfl⟩

theorem Wrap_nil (c : ByteArray) (w : World) : Calls Tryd.prog 11 #[.string c, .nilIface] w fun e w' => e = .returned .nilIface ∧ w = w' := by
  go_enter Tryd.func11, Tryd.ntmps11
  go_wp2
  go_ret
  exact ⟨rfl, rfl⟩

theorem Wrap_some (c : ByteArray) (u : TypeId) (v : Value) (w : World) : Calls Tryd.prog 11 #[.string c, .iface u v] w fun e w' =>
    e = .returned (.iface 44 (.pointer (some ⟨w.heap.size, 0, none⟩))) ∧ w.alloc (.cells #[.string c, .iface u v] 46) = w' := by
  go_enter Tryd.func11, Tryd.ntmps11
  go_wp2
  go_ret
  exact ⟨rfl, rfl⟩

/-- A new fault round a chain is a chain. -/
theorem Chain.cons {w : World} {n : Int} {E : Value} {l : List ByteArray} (h : Chain w n l E) (c : ByteArray) :
    Chain (w.alloc (.cells #[.string c, E] 46)) n (c :: l) (.iface 44 (.pointer (some ⟨w.heap.size, 0, none⟩))) := by
  have hb : Below w.heap.size w (w.alloc (.cells #[.string c, E] 46)) := (Below.refl _ _).alloc (Nat.le_refl _) _
  exact .wrap _ c E l (by rw [World.cell?_alloc_at _ _ _ _ (by simp)]; rfl) (by rw [World.cell?_alloc_at _ _ _ _ (by simp)]; rfl) (h.mono hb)

/-- New of a number: a chain of one. -/
theorem New_chain (c : ByteArray) (n : Int) (hn : n ≠ 0) (w : World) : Calls Tryd.prog 8 #[.string c, .int .i64 n] w fun e w' =>
    ∃ E, e = .returned E ∧ Chain w' n [c] E ∧ Below w.heap.size w w' := by
  refine (New_some c n hn w).mono ?_
  rintro e w' ⟨rfl, rfl⟩
  exact ⟨_, rfl, Chain.leaf.cons c, (Below.refl _ _).alloc (Nat.le_refl _) _⟩

theorem Wrap_chain (c : ByteArray) (n : Int) (l : List ByteArray) (E : Value) (w : World) (h : Chain w n l E) : Calls Tryd.prog 11 #[.string c, E] w fun e w' =>
    ∃ E', e = .returned E' ∧ Chain w' n (c :: l) E' ∧ Below w.heap.size w w' := by
  obtain ⟨u, v, rfl⟩ := h.iface
  refine (Wrap_some c u v w).mono ?_
  rintro e w' ⟨rfl, rfl⟩
  exact ⟨_, rfl, h.cons c, (Below.refl _ _).alloc (Nat.le_refl _) _⟩

/-! ### the deferred closures: nothing panics, nothing is recovered -/
theorem idle_Num (w : World) : CallsD Tryd.prog 23 #[] .returning w fun e u' w' => e = .returned (.tuple #[]) ∧ u' = .returning ∧ w = w' := by
  refine callsD_of_wpS Tryd.func23 rfl fun c₀ cs hu => ?_
  apply wpS_region
  simp [wpOpsS, go_sem, recoverD, hu, bodyPostS, results, Tryd.results23]
  cases c₀; simp_all
theorem idle_first (w : World) : CallsD Tryd.prog 32 #[] .returning w fun e u' w' => e = .returned (.tuple #[]) ∧ u' = .returning ∧ w = w' := by
  refine callsD_of_wpS Tryd.func32 rfl fun c₀ cs hu => ?_
  apply wpS_region
  simp [wpOpsS, go_sem, recoverD, hu, bodyPostS, results, Tryd.results32]
  cases c₀; simp_all
theorem idle_Is (w : World) : CallsD Tryd.prog 25 #[] .returning w fun e u' w' => e = .returned (.tuple #[]) ∧ u' = .returning ∧ w = w' := by
  refine callsD_of_wpS Tryd.func25 rfl fun c₀ cs hu => ?_
  apply wpS_region
  simp [wpOpsS, go_sem, recoverD, hu, bodyPostS, results, Tryd.results25]
  cases c₀; simp_all

/-! ### Num -/
theorem Num_nil (w : World) : Calls Tryd.prog 14 #[.nilIface] w fun e w' => e = .returned (.int .i64 0) ∧ Below w.heap.size w w' := by
  go_enter_defers Tryd.func14, Tryd.ntmps14
  go_wp2_with fail
  refine (As_nil _ _).mono ?_
  rintro e w' ⟨rfl, rfl⟩
  go_wp2
  refine leaves_cons (f := 23) (args := #[]) (by simp) (by simp [go_sem]) ?_
  refine (idle_Num _).mono ?_
  rintro e u' w'' ⟨rfl, rfl, rfl⟩
  exact ⟨_, results_tmp rfl _ _ _, rfl, (Below.refl _ _).alloc (Nat.le_refl _) _⟩

theorem Num_chain {w : World} (n : Int) (E : Value) (l : List ByteArray) (hch : Chain w n l E) (hg : Laid w) :
    Calls Tryd.prog 14 #[E] w fun e w' => e = .returned (.int .i64 n) ∧ Below w.heap.size w w' := by
  have hB : Below w.heap.size w (w.alloc (.cells #[.int .i64 0] 25)) := (Below.refl _ _).alloc (Nat.le_refl _) _
  have HC := Lib.hid (hch.mono hB)
  have HG := Lib.hid (hg.mono hB)
  obtain ⟨u, v, rfl⟩ := hch.iface
  clear hch hg
  have HB := Lib.hid hB
  clear hB
  go_enter_defers Tryd.func14, Tryd.ntmps14
  go_wp2_with fail
  refine (As_num n ⟨w.heap.size, 0, none⟩ (.int .i64 0) _ l HC.out (by simp) (by simp) HG.out).mono ?_
  rintro e w' ⟨rfl, w1, hb1, rfl⟩
  have hz : w.heap.size < w1.heap.size := by have := hb1.size; simp at this; omega
  have hc1 : w1.cell? ⟨w.heap.size, 0, none⟩ = some (.int .i64 0) := by rw [hb1.cell (p := ⟨w.heap.size, 0, none⟩) (by simp)]; simp
  have hc2 : (w1.setCell ⟨w.heap.size, 0, none⟩ (.int .i64 n)).cell? ⟨w.heap.size, 0, none⟩ = some (.int .i64 n) := World.cell?_setCell_same' _ _ _ (by rw [hc1]; rfl)
  have HB2 := Lib.hid ((HB.out.trans (hb1.mono (by simp))).setCell (p := ⟨w.heap.size, 0, none⟩) (Nat.le_refl _) (.int .i64 n))
  clear hb1 hc1
  generalize w1.setCell ⟨w.heap.size, 0, none⟩ (.int .i64 n) = w2 at *
  go_wp2
  refine leaves_cons (f := 23) (args := #[]) (by simp) (by simp [go_sem]) ?_
  refine (idle_Num _).mono ?_
  rintro e u' w'' ⟨rfl, rfl, rfl⟩
  exact ⟨_, results_tmp rfl _ _ _, rfl, HB2.out⟩

/-! ### first -/
theorem first_nil (w : World) : Calls Tryd.prog 24 #[.nilIface] w fun e w' => e = .returned (.pointer none) ∧ Below w.heap.size w w' := by
  go_enter_defers Tryd.func24, Tryd.ntmps24
  go_wp2_with fail
  refine (As_nil _ _).mono ?_
  rintro e w' ⟨rfl, rfl⟩
  go_wp2
  refine leaves_cons (f := 32) (args := #[]) (by simp) (by simp [go_sem]) ?_
  refine (idle_first _).mono ?_
  rintro e u' w'' ⟨rfl, rfl, rfl⟩
  exact ⟨_, results_tmp rfl _ _ _, rfl, (Below.refl _ _).alloc (Nat.le_refl _) _⟩

theorem first_leaf {w : World} (n : Int) (hg : Laid w) :
    Calls Tryd.prog 24 #[.iface 25 (.int .i64 n)] w fun e w' => e = .returned (.pointer none) ∧ Below w.heap.size w w' := by
  have hB : Below w.heap.size w (w.alloc (.cells #[.pointer none] 44)) := (Below.refl _ _).alloc (Nat.le_refl _) _
  have HG := Lib.hid (hg.mono hB)
  clear hg
  have HB := Lib.hid hB
  clear hB
  go_enter_defers Tryd.func24, Tryd.ntmps24
  go_wp2_with fail
  refine (As_fault_none ⟨w.heap.size, 0, none⟩ n HG.out).mono ?_
  rintro e w' ⟨rfl, hb1⟩
  have HB2 := Lib.hid (HB.out.trans (hb1.mono (by simp)))
  clear hb1
  go_wp2
  refine leaves_cons (f := 32) (args := #[]) (by simp) (by simp [go_sem]) ?_
  refine (idle_first _).mono ?_
  rintro e u' w'' ⟨rfl, rfl, rfl⟩
  exact ⟨_, results_tmp rfl _ _ _, rfl, HB2.out⟩

theorem first_fault {w : World} (p : Addr) (hg : Laid w) :
    Calls Tryd.prog 24 #[.iface 44 (.pointer (some p))] w fun e w' => e = .returned (.pointer (some p)) ∧ Below w.heap.size w w' := by
  have hB : Below w.heap.size w (w.alloc (.cells #[.pointer none] 44)) := (Below.refl _ _).alloc (Nat.le_refl _) _
  have HG := Lib.hid (hg.mono hB)
  clear hg
  have HB := Lib.hid hB
  clear hB
  go_enter_defers Tryd.func24, Tryd.ntmps24
  go_wp2_with fail
  refine (As_fault ⟨w.heap.size, 0, none⟩ p (.pointer none) (by simp) (by simp) HG.out).mono ?_
  rintro e w' ⟨rfl, w1, hb1, rfl⟩
  have hz : w.heap.size < w1.heap.size := by have := hb1.size; simp at this; omega
  have hc1 : w1.cell? ⟨w.heap.size, 0, none⟩ = some (.pointer none) := by rw [hb1.cell (p := ⟨w.heap.size, 0, none⟩) (by simp)]; simp
  have hc2 : (w1.setCell ⟨w.heap.size, 0, none⟩ (.pointer (some p))).cell? ⟨w.heap.size, 0, none⟩ = some (.pointer (some p)) := World.cell?_setCell_same' _ _ _ (by rw [hc1]; rfl)
  have HB2 := Lib.hid ((HB.out.trans (hb1.mono (by simp))).setCell (p := ⟨w.heap.size, 0, none⟩) (Nat.le_refl _) (.pointer (some p)))
  clear hb1 hc1
  generalize w1.setCell ⟨w.heap.size, 0, none⟩ (.pointer (some p)) = w2 at *
  go_wp2
  refine leaves_cons (f := 32) (args := #[]) (by simp) (by simp [go_sem]) ?_
  refine (idle_first _).mono ?_
  rintro e u' w'' ⟨rfl, rfl, rfl⟩
  exact ⟨_, results_tmp rfl _ _ _, rfl, HB2.out⟩

/-! ### Call -/
theorem Call_nil (w : World) : Calls Tryd.prog 15 #[.nilIface] w fun e w' => e = .returned (.string ⟨#[]⟩) ∧ Below w.heap.size w w' := by
  go_enter Tryd.func15, Tryd.ntmps15
  go_wp2_with fail
  refine (first_nil _).mono ?_
  rintro e w' ⟨rfl, hb⟩
  have HB := Lib.hid hb
  clear hb
  go_wp2
  go_ret
  exact ⟨rfl, HB.out⟩

theorem Call_leaf {w : World} (n : Int) (hg : Laid w) : Calls Tryd.prog 15 #[.iface 25 (.int .i64 n)] w fun e w' => e = .returned (.string ⟨#[]⟩) ∧ Below w.heap.size w w' := by
  have HG := Lib.hid hg
  clear hg
  go_enter Tryd.func15, Tryd.ntmps15
  go_wp2_with fail
  refine (first_leaf n HG.out).mono ?_
  rintro e w' ⟨rfl, hb⟩
  have HB := Lib.hid hb
  clear hb
  go_wp2
  go_ret
  exact ⟨rfl, HB.out⟩

theorem Call_fault {w : World} (b : Nat) (c : ByteArray) (hc : w.cell? ⟨b, 0, none⟩ = some (.string c)) (hg : Laid w) :
    Calls Tryd.prog 15 #[.iface 44 (.pointer (some ⟨b, 0, none⟩))] w fun e w' => e = .returned (.string c) ∧ Below w.heap.size w w' := by
  have HG := Lib.hid hg
  have HC := Lib.hid hc
  have hlt : b < w.heap.size := World.block_lt_of_cell? w ⟨b, 0, none⟩ hc
  clear hg hc
  go_enter Tryd.func15, Tryd.ntmps15
  go_wp2_with fail
  refine (first_fault ⟨b, 0, none⟩ HG.out).mono ?_
  rintro e w' ⟨rfl, hb⟩
  have hc' : w'.cell? ⟨b, 0, none⟩ = some (.string c) := (hb.cell (p := ⟨b, 0, none⟩) hlt).trans HC.out
  have HB := Lib.hid hb
  clear hb
  go_wp2
  go_ret
  exact ⟨rfl, HB.out⟩

/-! ### Is -/
theorem FIs_nil (m : Int) (w : World) : Calls Tryd.prog 17 #[.nilIface, .int .i64 m] w fun e w' => e = .returned (.bool false) ∧ w = w' := by
  go_enter_defers Tryd.func17, Tryd.ntmps17
  go_wp2_with fail
  refine (Is_nil m w).mono ?_
  rintro e w' ⟨rfl, rfl⟩
  go_wp2
  refine leaves_cons (f := 25) (args := #[]) (by simp) (by simp [go_sem]) ?_
  refine (idle_Is _).mono ?_
  rintro e u' w'' ⟨rfl, rfl, rfl⟩
  exact ⟨_, results_tmp rfl _ _ _, rfl, rfl⟩

theorem FIs_chain {w : World} (n m : Int) (E : Value) (l : List ByteArray) (hch : Chain w n l E) :
    Calls Tryd.prog 17 #[E, .int .i64 m] w fun e w' => e = .returned (.bool (n == m)) ∧ w = w' := by
  have HC := Lib.hid hch
  obtain ⟨u, v, rfl⟩ := hch.iface
  clear hch
  go_enter_defers Tryd.func17, Tryd.ntmps17
  go_wp2_with fail
  refine (Is_num n m _ l HC.out).mono ?_
  rintro e w' ⟨rfl, rfl⟩
  go_wp2
  refine leaves_cons (f := 25) (args := #[]) (by simp) (by simp [go_sem]) ?_
  refine (idle_Is _).mono ?_
  rintro e u' w'' ⟨rfl, rfl, rfl⟩
  exact ⟨_, results_tmp rfl _ _ _, rfl, rfl⟩
end Go.Proofs.YtnjglbhghijnoaaDoor
