/- errors.As and errors.Is at a chain of faults round a number. -/
import Derived.Test.YtgbogglalnafeaaDoorErrAs
namespace Go.Proofs.YtgbogglalnafeaaDoor
open Go.RowKit Go.Extern.Stop Go.Stop Go.Extern

/-- errors.As of no error. -/
theorem As_nil (t : Value) (w : World) :
    Calls Tryd.prog 26 #[.nilIface, t] w fun e w' => e = .returned (.bool false) ∧ w = w' := by
  go_enter Tryd.func26, Tryd.ntmps26
  go_wp2
  go_ret
  exact ⟨rfl, rfl⟩

/-- The variable errors.errorType holds its handle. -/
def Laid (w : World) : Prop := w.cell? ⟨0, 0, none⟩ = some (.iface 63 (.agg #[.pointer (some ⟨1, 23, none⟩)]))
theorem Laid.mono {w w' : World} (h : Laid w) (hb : Below w.heap.size w w') : Laid w' := by
  have hlt : 0 < w.heap.size := World.block_lt_of_cell? w ⟨0, 0, none⟩ h
  exact (hb.cell (p := ⟨0, 0, none⟩) hlt).trans h

set_option maxRecDepth 1000000 in
set_option maxHeartbeats 1000000 in
theorem As_num {w : World} (n : Int) (t : Addr) (old : Value) (E : Value) (l : List ByteArray) (hch : Chain w n l E)
    (ht : w.cell? t = some old) (hf : w.frozen? t = false) (hg : Laid w) :
    Calls Tryd.prog 26 #[E, .iface 44 (.pointer (some t))] w
      fun e w' => e = .returned (.bool true) ∧ ∃ w1, Below w.heap.size w w1 ∧ w' = w1.setCell t (.int .i64 n) := by
  have c1 := callValueOf
  have c2 := callType
  have c3 := callIsNil
  have c4 := callKind
  have c5 := callRElem
  have c6 := callImpl
  have f1 := valueOfPE
  have f2 := typePE
  have f3 := mKind
  have f4 := mElem
  have f5 := mImpl
  have f6 := kindPE
  have f7 := kindE
  have f8 := elemPE
  have f9 := implE
  have hg0 : w.cell? ⟨0, 0, none⟩ = some (.iface 63 (.agg #[.pointer (some ⟨1, 23, none⟩)])) := hg
  have hlt : 0 < w.heap.size := World.block_lt_of_cell? w ⟨0, 0, none⟩ hg0
  have htl : t.block < w.heap.size := World.block_lt_of_cell? w t ht
  have n8 := isNilPE ⟨w.heap.size, 0, none⟩ t ((w.alloc (.cells #[.pointer (some t)] 44)).alloc (.cells #[.pointer (some ⟨1, 44, none⟩), .pointer (some ⟨w.heap.size, 0, none⟩), .int .u64 150] 53)) (by simp)
  have hg2 : ((w.alloc (.cells #[.pointer (some t)] 44)).alloc (.cells #[.pointer (some ⟨1, 44, none⟩), .pointer (some ⟨w.heap.size, 0, none⟩), .int .u64 150] 53)).cell? ⟨0, 0, none⟩ = some (.iface 63 (.agg #[.pointer (some ⟨1, 23, none⟩)])) := by
    rw [World.cell?_alloc_lt _ _ ⟨0, 0, none⟩ (by simp <;> omega), World.cell?_alloc_lt _ _ ⟨0, 0, none⟩ hlt]; exact hg0
  have hB : Below w.heap.size w ((w.alloc (.cells #[.pointer (some t)] 44)).alloc (.cells #[.pointer (some ⟨1, 44, none⟩), .pointer (some ⟨w.heap.size, 0, none⟩), .int .u64 150] 53)) := ((Below.refl _ _).alloc (Nat.le_refl _) _).alloc (by simp) _
  have HT := Lib.hid ((hB.cell (p := t) htl).trans ht)
  have HF := Lib.hid ((hB.frozen (p := t) htl).trans hf)
  have HC := Lib.hid (hch.mono hB)
  obtain ⟨u, v, rfl⟩ := hch.iface
  clear hch ht hf
  have HB := Lib.hid hB
  clear hB
  go_enter Tryd.func26, Tryd.ntmps26
  go_wp2_with fail
  refine (as_num n t ⟨w.heap.size, 0, none⟩ old _ l HC.out HT.out HF.out (by simp)).mono ?_
  rintro e w' ⟨rfl, w1, hb1, rfl⟩
  go_wp2
  go_ret
  exact ⟨rfl, w1, HB.out.trans (hb1.mono (by simp; omega)), rfl⟩

set_option maxRecDepth 1000000 in
set_option maxHeartbeats 1000000 in
/-- errors.As at **api.Fault, of a fault. -/
theorem As_fault {w : World} (t p : Addr) (old : Value)
    (ht : w.cell? t = some old) (hf : w.frozen? t = false) (hg : Laid w) :
    Calls Tryd.prog 26 #[.iface 42 (.pointer (some p)), .iface 45 (.pointer (some t))] w
      fun e w' => e = .returned (.bool true) ∧ ∃ w1, Below w.heap.size w w1 ∧ w' = w1.setCell t (.pointer (some p)) := by
  have c1 := callValueOf
  have c2 := callType
  have c3 := callIsNil
  have c4 := callKind
  have c5 := callRElem
  have c6 := callImpl
  have f1 := valueOfPF
  have f2 := typePF
  have f3 := mKind
  have f4 := mElem
  have f5 := mImpl
  have f6 := kindPF
  have f7 := kindF
  have f8 := elemPF
  have f9 := implF
  have hg0 : w.cell? ⟨0, 0, none⟩ = some (.iface 63 (.agg #[.pointer (some ⟨1, 23, none⟩)])) := hg
  have hlt : 0 < w.heap.size := World.block_lt_of_cell? w ⟨0, 0, none⟩ hg0
  have htl : t.block < w.heap.size := World.block_lt_of_cell? w t ht
  have n8 := isNilPF ⟨w.heap.size, 0, none⟩ t ((w.alloc (.cells #[.pointer (some t)] 45)).alloc (.cells #[.pointer (some ⟨1, 45, none⟩), .pointer (some ⟨w.heap.size, 0, none⟩), .int .u64 150] 53)) (by simp)
  have hg2 : ((w.alloc (.cells #[.pointer (some t)] 45)).alloc (.cells #[.pointer (some ⟨1, 45, none⟩), .pointer (some ⟨w.heap.size, 0, none⟩), .int .u64 150] 53)).cell? ⟨0, 0, none⟩ = some (.iface 63 (.agg #[.pointer (some ⟨1, 23, none⟩)])) := by
    rw [World.cell?_alloc_lt _ _ ⟨0, 0, none⟩ (by simp <;> omega), World.cell?_alloc_lt _ _ ⟨0, 0, none⟩ hlt]; exact hg0
  have hB : Below w.heap.size w ((w.alloc (.cells #[.pointer (some t)] 45)).alloc (.cells #[.pointer (some ⟨1, 45, none⟩), .pointer (some ⟨w.heap.size, 0, none⟩), .int .u64 150] 53)) := ((Below.refl _ _).alloc (Nat.le_refl _) _).alloc (by simp) _
  have HT := Lib.hid ((hB.cell (p := t) htl).trans ht)
  have HF := Lib.hid ((hB.frozen (p := t) htl).trans hf)
  clear ht hf
  have HB := Lib.hid hB
  clear hB
  go_enter Tryd.func26, Tryd.ntmps26
  go_wp2_with fail
  refine (as_fault t ⟨w.heap.size, 0, none⟩ p old HT.out HF.out (by simp)).mono ?_
  rintro e w' ⟨rfl, w1, hb1, rfl⟩
  go_wp2
  go_ret
  exact ⟨rfl, w1, HB.out.trans (hb1.mono (by simp; omega)), rfl⟩

set_option maxRecDepth 1000000 in
set_option maxHeartbeats 1000000 in
/-- errors.As at **api.Fault, of a bare number. -/
theorem As_fault_none {w : World} (t : Addr) (n : Int) (hg : Laid w) :
    Calls Tryd.prog 26 #[.iface 41 (.int .i64 n), .iface 45 (.pointer (some t))] w
      fun e w' => e = .returned (.bool false) ∧ Below w.heap.size w w' := by
  have c1 := callValueOf
  have c2 := callType
  have c3 := callIsNil
  have c4 := callKind
  have c5 := callRElem
  have c6 := callImpl
  have f1 := valueOfPF
  have f2 := typePF
  have f3 := mKind
  have f4 := mElem
  have f5 := mImpl
  have f6 := kindPF
  have f7 := kindF
  have f8 := elemPF
  have f9 := implF
  have hg0 : w.cell? ⟨0, 0, none⟩ = some (.iface 63 (.agg #[.pointer (some ⟨1, 23, none⟩)])) := hg
  have hlt : 0 < w.heap.size := World.block_lt_of_cell? w ⟨0, 0, none⟩ hg0
  have n8 := isNilPF ⟨w.heap.size, 0, none⟩ t ((w.alloc (.cells #[.pointer (some t)] 45)).alloc (.cells #[.pointer (some ⟨1, 45, none⟩), .pointer (some ⟨w.heap.size, 0, none⟩), .int .u64 150] 53)) (by simp)
  have hg2 : ((w.alloc (.cells #[.pointer (some t)] 45)).alloc (.cells #[.pointer (some ⟨1, 45, none⟩), .pointer (some ⟨w.heap.size, 0, none⟩), .int .u64 150] 53)).cell? ⟨0, 0, none⟩ = some (.iface 63 (.agg #[.pointer (some ⟨1, 23, none⟩)])) := by
    rw [World.cell?_alloc_lt _ _ ⟨0, 0, none⟩ (by simp <;> omega), World.cell?_alloc_lt _ _ ⟨0, 0, none⟩ hlt]; exact hg0
  have hB : Below w.heap.size w ((w.alloc (.cells #[.pointer (some t)] 45)).alloc (.cells #[.pointer (some ⟨1, 45, none⟩), .pointer (some ⟨w.heap.size, 0, none⟩), .int .u64 150] 53)) := ((Below.refl _ _).alloc (Nat.le_refl _) _).alloc (by simp) _
  have HB := Lib.hid hB
  clear hB
  go_enter Tryd.func26, Tryd.ntmps26
  go_wp2_with fail
  refine (as_fault_none t ⟨w.heap.size, 0, none⟩ n).mono ?_
  rintro e w' ⟨rfl, hb1⟩
  go_wp2
  go_ret
  exact ⟨rfl, HB.out.trans (hb1.mono (by simp; omega))⟩

/-! ### errors.Is -/
theorem eqlEE (a b : Int) (w : World) : (binOp .eql 23 (.iface 41 (.int .i64 a)) (.iface 41 (.int .i64 b))).run Tryd.prog w = .ok (.bool (a == b)) w := by
  have hc : (Tryd.prog.info? 41).map (·.comparable) = some true := by kernel_rfl
  obtain ⟨i, hi, hcmp⟩ := Option.map_eq_some_iff.1 hc
  have h : ∀ d : Nat, (Op.equalIn (d + 2) 23 (.iface 41 (.int .i64 a)) (.iface 41 (.int .i64 b))).run Tryd.prog w = .ok (a == b) w := fun d => by
    simp [Op.equalIn, run_underlying Tryd.underlying23, run_underlying Tryd.underlying41, typeInfo, hi, hcmp]
  simp only [binOp]
  simp [Op.equal, Op.maxDepth, h 9998]
theorem eqlFE (v u : Value) (w : World) : (binOp .eql 23 (.iface 42 v) (.iface 41 u)).run Tryd.prog w = .ok (.bool false) w :=
  run_eql_iface_types 42 41 v u Tryd.underlying23 (by decide) w

end Go.Proofs.YtgbogglalnafeaaDoor
