import Derived.Test.YtkhdjjcflbdegaaGreatDoorG01
import Derived.Defers
import Derived.Recover
import Derived.Laws.Pointers

section
/- errors.As at a chain of faults round a number: the number is found behind all of them; the outermost fault is found at once. -/
namespace Go.Proofs.YtkhdjjcflbdegaaGreatDoor
open Go.RowKit Go.Extern.Stop Go.Stop Go.Extern

/-- A CHAIN of faults in the world: the calls from the outermost on, the number innermost. -/
inductive Chain (w : World) (n : Int) : List ByteArray → Value → Prop
  | leaf : Chain w n [] (.iface 83 (.int .i64 n))
  | wrap (b : Nat) (c : ByteArray) (E : Value) (l : List ByteArray) : w.cell? ⟨b, 0, none⟩ = some (.string c) → w.cell? ⟨b, 1, none⟩ = some E → Chain w n l E → Chain w n (c :: l) (.iface 84 (.pointer (some ⟨b, 0, none⟩)))

theorem Chain.unique {w : World} {n : Int} {E : Value} {l l' : List ByteArray} (h : Chain w n l E) (h' : Chain w n l' E) : l = l' := by
  induction h generalizing l' with
  | leaf => cases h'; rfl
  | wrap b c E1 l1 hc he h1 ih =>
    cases h' with
    | wrap _ c2 E2 l2 hc2 he2 h2 => rw [hc] at hc2; cases hc2; rw [he] at he2; cases he2; rw [ih h2]

theorem Chain.mono {w w' : World} {n : Int} {E : Value} {l : List ByteArray} (h : Chain w n l E) (hb : Below w.heap.size w w') : Chain w' n l E := by
  induction h with
  | leaf => exact .leaf
  | wrap b c E1 l1 hc he h1 ih =>
    have hlt : b < w.heap.size := World.block_lt_of_cell? w ⟨b, 0, none⟩ hc
    exact .wrap b c E1 l1 ((hb.cell (p := ⟨b, 0, none⟩) hlt).trans hc) ((hb.cell (p := ⟨b, 1, none⟩) hlt).trans he) ih

theorem Chain.iface {w : World} {n : Int} {E : Value} {l : List ByteArray} (h : Chain w n l E) : ∃ u v, E = .iface u v := by
  cases h <;> exact ⟨_, _, rfl⟩

open Classical in
/-- How many faults are left: the loop's measure. -/
noncomputable def chainLen (w : World) (n : Int) (E : Value) : Nat := if h : ∃ l, Chain w n l E then h.choose.length else 0
theorem chainLen_eq {w : World} {n : Int} {E : Value} {l : List ByteArray} (h : Chain w n l E) : chainLen w n E = l.length := by
  unfold chainLen
  rw [dif_pos ⟨l, h⟩]
  rw [Chain.unique (Exists.choose_spec (⟨l, h⟩ : ∃ l, Chain w n l E)) h]

set_option maxRecDepth 1000000 in
/-- errors.as at the target *api.Errno. -/
theorem as_num {W : World} (n : Int) (t a : Addr) (old : Value) (E : Value) (l : List ByteArray) (hch : Chain W n l E)
    (ht : W.cell? t = some old) (hf : W.frozen? t = false) (ha : W.cell? a = some (.pointer (some t))) :
    Calls Tryz.prog 73 #[E, .iface 86 (.pointer (some t)), .agg #[.pointer (some ⟨3, 86, none⟩), .pointer (some a), .int .u64 150], .iface 176 (.agg #[.pointer (some ⟨3, 83, none⟩)])] W
      fun e w' => e = .returned (.bool true) ∧ ∃ w1, Below W.heap.size W w1 ∧ w' = w1.setCell t (.int .i64 n) := by
  have c1 := callTypeOf
  have c2 := callAss
  have c3 := callElem
  have c4 := callValueOf
  have c5 := callSet
  have f1 := typeOfE
  have f2 := typeOfF
  have f3 := assEE
  have f4 := assFE
  have f5 := mAss
  have f6 := mUnwrap
  have f7 := noAsE
  have f8 := noAsF
  have f9 := hasUnF
  have f10 := valueOfE
  have htl : t.block < W.heap.size := World.block_lt_of_cell? W t ht
  have hal : a.block < W.heap.size := World.block_lt_of_cell? W a ha
  go_enter Tryz.func73, Tryz.ntmps73
  go_wp2
  go_loopw [0] (fun E' wl => wl = W.alloc (.cells #[.pointer (some ⟨3, 86, none⟩), .pointer (some a), .int .u64 150] 127) ∧ ∃ l', Chain W n l' E') (fun E' _ => chainLen W n E')
  case atStart => exact ⟨rfl, l, hch⟩
  case round =>
    obtain ⟨rfl, l', hc'⟩ := hrel
    cases hc' with
    | leaf =>
      have el := elemVPE a t (W.alloc (.cells #[.pointer (some ⟨3, 86, none⟩), .pointer (some a), .int .u64 150] 127)) (by rw [World.cell?_alloc_lt _ _ a hal]; exact ha)
      have st := setE t ⟨W.heap.size + 1, 0, none⟩ n old ((W.alloc (.cells #[.pointer (some ⟨3, 86, none⟩), .pointer (some a), .int .u64 150] 127)).alloc (.cells #[.int .i64 n] 83))
        (by rw [World.cell?_alloc_at _ _ _ _ (by simp)]; rfl)
        (by rw [World.cell?_alloc_lt _ _ t (by simp; omega), World.cell?_alloc_lt _ _ t htl]; exact ht)
        (by rw [World.frozen?_alloc_old _ _ t (by simp; omega), World.frozen?_alloc_old _ _ t (Nat.ne_of_lt htl)]; exact hf)
      go_wp2
      go_ret
      exact ⟨rfl, _, ((Below.refl _ _).alloc (Nat.le_refl _) _).alloc (by simp) _, rfl⟩
    | wrap b c E1 l1 hb0 hb1 h1 =>
      obtain ⟨u1, v1, rfl⟩ := h1.iface
      have hlen := chainLen_eq h1
      have hlen0 := chainLen_eq (Chain.wrap b c _ l1 hb0 hb1 h1)
      have HC : Hid (Chain W n l1 (.iface u1 v1)) := h1
      have HL : Hid (chainLen W n (.iface u1 v1) < chainLen W n (.iface 84 (.pointer (some ⟨b, 0, none⟩)))) := by
        show _ < _
        rw [hlen, hlen0]; simp
      clear h1 hlen hlen0
      have hbl : b < W.heap.size := World.block_lt_of_cell? W ⟨b, 0, none⟩ hb0
      have hb1' : (W.alloc (.cells #[.pointer (some ⟨3, 86, none⟩), .pointer (some a), .int .u64 150] 127)).cell? ⟨b, 1, none⟩ = some (.iface u1 v1) := by
        rw [World.cell?_alloc_lt _ _ ⟨b, 1, none⟩ hbl]; exact hb1
      go_wp2
      go_roundw
      case rel => exact ⟨trivial, l1, HC.out⟩
      case measure => exact HL.out

set_option maxRecDepth 1000000 in
/-- errors.as at the target **api.Fault: the outermost fault is the answer. -/
theorem as_fault {W : World} (t a p : Addr) (old : Value)
    (ht : W.cell? t = some old) (hf : W.frozen? t = false) (ha : W.cell? a = some (.pointer (some t))) :
    Calls Tryz.prog 73 #[.iface 84 (.pointer (some p)), .iface 87 (.pointer (some t)), .agg #[.pointer (some ⟨3, 87, none⟩), .pointer (some a), .int .u64 150], .iface 176 (.agg #[.pointer (some ⟨3, 84, none⟩)])] W
      fun e w' => e = .returned (.bool true) ∧ ∃ w1, Below W.heap.size W w1 ∧ w' = w1.setCell t (.pointer (some p)) := by
  have c1 := callTypeOf
  have c2 := callAss
  have c3 := callElem
  have c4 := callValueOf
  have c5 := callSet
  have f2 := typeOfF
  have f4 := assFF
  have f5 := mAss
  have f10 := valueOfF
  have htl : t.block < W.heap.size := World.block_lt_of_cell? W t ht
  have hal : a.block < W.heap.size := World.block_lt_of_cell? W a ha
  have el := elemVPF a t (W.alloc (.cells #[.pointer (some ⟨3, 87, none⟩), .pointer (some a), .int .u64 150] 127)) (by rw [World.cell?_alloc_lt _ _ a hal]; exact ha)
  have st := setF t ⟨W.heap.size + 1, 0, none⟩ p old ((W.alloc (.cells #[.pointer (some ⟨3, 87, none⟩), .pointer (some a), .int .u64 150] 127)).alloc (.cells #[.pointer (some p)] 84))
    (by rw [World.cell?_alloc_at _ _ _ _ (by simp)]; rfl)
    (by rw [World.cell?_alloc_lt _ _ t (by simp; omega), World.cell?_alloc_lt _ _ t htl]; exact ht)
    (by rw [World.frozen?_alloc_old _ _ t (by simp; omega), World.frozen?_alloc_old _ _ t (Nat.ne_of_lt htl)]; exact hf)
  go_enter Tryz.func73, Tryz.ntmps73
  go_wp2
  refine wp_loop_rounds 1 ?_
  rw [rounds_succ]
  go_wp2
  go_ret
  exact ⟨rfl, _, ((Below.refl _ _).alloc (Nat.le_refl _) _).alloc (by simp) _, rfl⟩

set_option maxRecDepth 1000000 in
/-- errors.as at the target **api.Fault: a bare number is no fault. -/
theorem as_fault_none {W : World} (t a : Addr) (n : Int) :
    Calls Tryz.prog 73 #[.iface 83 (.int .i64 n), .iface 87 (.pointer (some t)), .agg #[.pointer (some ⟨3, 87, none⟩), .pointer (some a), .int .u64 150], .iface 176 (.agg #[.pointer (some ⟨3, 84, none⟩)])] W
      fun e w' => e = .returned (.bool false) ∧ Below W.heap.size W w' := by
  have c1 := callTypeOf
  have c2 := callAss
  have f1 := typeOfE
  have f4 := assEF
  have f5 := mAss
  have f7 := noAsE
  have f8 := noUnE
  have f9 := noUnsE
  go_enter Tryz.func73, Tryz.ntmps73
  go_wp2
  refine wp_loop_rounds 1 ?_
  rw [rounds_succ]
  go_wp2
  go_ret
  exact ⟨rfl, (Below.refl _ _).alloc (Nat.le_refl _) _⟩

end Go.Proofs.YtkhdjjcflbdegaaGreatDoor
end

section
/- errors.As and errors.Is at a chain of faults round a number. -/
namespace Go.Proofs.YtkhdjjcflbdegaaGreatDoor
open Go.RowKit Go.Extern.Stop Go.Stop Go.Extern

/-- errors.As of no error. -/
theorem As_nil (t : Value) (w : World) :
    Calls Tryz.prog 37 #[.nilIface, t] w fun e w' => e = .returned (.bool false) ∧ w = w' := by
  go_enter Tryz.func37, Tryz.ntmps37
  go_wp2
  go_ret
  exact ⟨rfl, rfl⟩

/-- The variable errors.errorType holds its handle. -/
def Laid (w : World) : Prop := w.cell? ⟨0, 0, none⟩ = some (.iface 176 (.agg #[.pointer (some ⟨3, 26, none⟩)]))
theorem Laid.mono {w w' : World} (h : Laid w) (hb : Below w.heap.size w w') : Laid w' := by
  have hlt : 0 < w.heap.size := World.block_lt_of_cell? w ⟨0, 0, none⟩ h
  exact (hb.cell (p := ⟨0, 0, none⟩) hlt).trans h

set_option maxRecDepth 1000000 in
set_option maxHeartbeats 1000000 in
theorem As_num {w : World} (n : Int) (t : Addr) (old : Value) (E : Value) (l : List ByteArray) (hch : Chain w n l E)
    (ht : w.cell? t = some old) (hf : w.frozen? t = false) (hg : Laid w) :
    Calls Tryz.prog 37 #[E, .iface 86 (.pointer (some t))] w
      fun e w' => e = .returned (.bool true) ∧ ∃ w1, Below w.heap.size w w1 ∧ w' = w1.setCell t (.int .i64 n) := by
  have c1 := callValueOf
  have c2 := callType
  have c3 := callIsNil
  have c4 := callKind
  have c5 := callRElem
  have c6 := callImpl
  have f1 := valueOfPE
  have f2 := typePE
  have f3 := mKind
  have f4 := mElem
  have f5 := mImpl
  have f6 := kindPE
  have f7 := kindE
  have f8 := elemPE
  have f9 := implE
  have hg0 : w.cell? ⟨0, 0, none⟩ = some (.iface 176 (.agg #[.pointer (some ⟨3, 26, none⟩)])) := hg
  have hlt : 0 < w.heap.size := World.block_lt_of_cell? w ⟨0, 0, none⟩ hg0
  have htl : t.block < w.heap.size := World.block_lt_of_cell? w t ht
  have n8 := isNilPE ⟨w.heap.size, 0, none⟩ t ((w.alloc (.cells #[.pointer (some t)] 86)).alloc (.cells #[.pointer (some ⟨3, 86, none⟩), .pointer (some ⟨w.heap.size, 0, none⟩), .int .u64 150] 127)) (by simp)
  have hg2 : ((w.alloc (.cells #[.pointer (some t)] 86)).alloc (.cells #[.pointer (some ⟨3, 86, none⟩), .pointer (some ⟨w.heap.size, 0, none⟩), .int .u64 150] 127)).cell? ⟨0, 0, none⟩ = some (.iface 176 (.agg #[.pointer (some ⟨3, 26, none⟩)])) := by
    rw [World.cell?_alloc_lt _ _ ⟨0, 0, none⟩ (by simp <;> omega), World.cell?_alloc_lt _ _ ⟨0, 0, none⟩ hlt]; exact hg0
  have hB : Below w.heap.size w ((w.alloc (.cells #[.pointer (some t)] 86)).alloc (.cells #[.pointer (some ⟨3, 86, none⟩), .pointer (some ⟨w.heap.size, 0, none⟩), .int .u64 150] 127)) := ((Below.refl _ _).alloc (Nat.le_refl _) _).alloc (by simp) _
  have HT := Lib.hid ((hB.cell (p := t) htl).trans ht)
  have HF := Lib.hid ((hB.frozen (p := t) htl).trans hf)
  have HC := Lib.hid (hch.mono hB)
  obtain ⟨u, v, rfl⟩ := hch.iface
  clear hch ht hf
  have HB := Lib.hid hB
  clear hB
  go_enter Tryz.func37, Tryz.ntmps37
  go_wp2_with fail
  refine (as_num n t ⟨w.heap.size, 0, none⟩ old _ l HC.out HT.out HF.out (by simp)).mono ?_
  rintro e w' ⟨rfl, w1, hb1, rfl⟩
  go_wp2
  go_ret
  exact ⟨rfl, w1, HB.out.trans (hb1.mono (by simp; omega)), rfl⟩

set_option maxRecDepth 1000000 in
set_option maxHeartbeats 1000000 in
/-- errors.As at **api.Fault, of a fault. -/
theorem As_fault {w : World} (t p : Addr) (old : Value)
    (ht : w.cell? t = some old) (hf : w.frozen? t = false) (hg : Laid w) :
    Calls Tryz.prog 37 #[.iface 84 (.pointer (some p)), .iface 87 (.pointer (some t))] w
      fun e w' => e = .returned (.bool true) ∧ ∃ w1, Below w.heap.size w w1 ∧ w' = w1.setCell t (.pointer (some p)) := by
  have c1 := callValueOf
  have c2 := callType
  have c3 := callIsNil
  have c4 := callKind
  have c5 := callRElem
  have c6 := callImpl
  have f1 := valueOfPF
  have f2 := typePF
  have f3 := mKind
  have f4 := mElem
  have f5 := mImpl
  have f6 := kindPF
  have f7 := kindF
  have f8 := elemPF
  have f9 := implF
  have hg0 : w.cell? ⟨0, 0, none⟩ = some (.iface 176 (.agg #[.pointer (some ⟨3, 26, none⟩)])) := hg
  have hlt : 0 < w.heap.size := World.block_lt_of_cell? w ⟨0, 0, none⟩ hg0
  have htl : t.block < w.heap.size := World.block_lt_of_cell? w t ht
  have n8 := isNilPF ⟨w.heap.size, 0, none⟩ t ((w.alloc (.cells #[.pointer (some t)] 87)).alloc (.cells #[.pointer (some ⟨3, 87, none⟩), .pointer (some ⟨w.heap.size, 0, none⟩), .int .u64 150] 127)) (by simp)
  have hg2 : ((w.alloc (.cells #[.pointer (some t)] 87)).alloc (.cells #[.pointer (some ⟨3, 87, none⟩), .pointer (some ⟨w.heap.size, 0, none⟩), .int .u64 150] 127)).cell? ⟨0, 0, none⟩ = some (.iface 176 (.agg #[.pointer (some ⟨3, 26, none⟩)])) := by
    rw [World.cell?_alloc_lt _ _ ⟨0, 0, none⟩ (by simp <;> omega), World.cell?_alloc_lt _ _ ⟨0, 0, none⟩ hlt]; exact hg0
  have hB : Below w.heap.size w ((w.alloc (.cells #[.pointer (some t)] 87)).alloc (.cells #[.pointer (some ⟨3, 87, none⟩), .pointer (some ⟨w.heap.size, 0, none⟩), .int .u64 150] 127)) := ((Below.refl _ _).alloc (Nat.le_refl _) _).alloc (by simp) _
  have HT := Lib.hid ((hB.cell (p := t) htl).trans ht)
  have HF := Lib.hid ((hB.frozen (p := t) htl).trans hf)
  clear ht hf
  have HB := Lib.hid hB
  clear hB
  go_enter Tryz.func37, Tryz.ntmps37
  go_wp2_with fail
  refine (as_fault t ⟨w.heap.size, 0, none⟩ p old HT.out HF.out (by simp)).mono ?_
  rintro e w' ⟨rfl, w1, hb1, rfl⟩
  go_wp2
  go_ret
  exact ⟨rfl, w1, HB.out.trans (hb1.mono (by simp; omega)), rfl⟩

set_option maxRecDepth 1000000 in
set_option maxHeartbeats 1000000 in
/-- errors.As at **api.Fault, of a bare number. -/
theorem As_fault_none {w : World} (t : Addr) (n : Int) (hg : Laid w) :
    Calls Tryz.prog 37 #[.iface 83 (.int .i64 n), .iface 87 (.pointer (some t))] w
      fun e w' => e = .returned (.bool false) ∧ Below w.heap.size w w' := by
  have c1 := callValueOf
  have c2 := callType
  have c3 := callIsNil
  have c4 := callKind
  have c5 := callRElem
  have c6 := callImpl
  have f1 := valueOfPF
  have f2 := typePF
  have f3 := mKind
  have f4 := mElem
  have f5 := mImpl
  have f6 := kindPF
  have f7 := kindF
  have f8 := elemPF
  have f9 := implF
  have hg0 : w.cell? ⟨0, 0, none⟩ = some (.iface 176 (.agg #[.pointer (some ⟨3, 26, none⟩)])) := hg
  have hlt : 0 < w.heap.size := World.block_lt_of_cell? w ⟨0, 0, none⟩ hg0
  have n8 := isNilPF ⟨w.heap.size, 0, none⟩ t ((w.alloc (.cells #[.pointer (some t)] 87)).alloc (.cells #[.pointer (some ⟨3, 87, none⟩), .pointer (some ⟨w.heap.size, 0, none⟩), .int .u64 150] 127)) (by simp)
  have hg2 : ((w.alloc (.cells #[.pointer (some t)] 87)).alloc (.cells #[.pointer (some ⟨3, 87, none⟩), .pointer (some ⟨w.heap.size, 0, none⟩), .int .u64 150] 127)).cell? ⟨0, 0, none⟩ = some (.iface 176 (.agg #[.pointer (some ⟨3, 26, none⟩)])) := by
    rw [World.cell?_alloc_lt _ _ ⟨0, 0, none⟩ (by simp <;> omega), World.cell?_alloc_lt _ _ ⟨0, 0, none⟩ hlt]; exact hg0
  have hB : Below w.heap.size w ((w.alloc (.cells #[.pointer (some t)] 87)).alloc (.cells #[.pointer (some ⟨3, 87, none⟩), .pointer (some ⟨w.heap.size, 0, none⟩), .int .u64 150] 127)) := ((Below.refl _ _).alloc (Nat.le_refl _) _).alloc (by simp) _
  have HB := Lib.hid hB
  clear hB
  go_enter Tryz.func37, Tryz.ntmps37
  go_wp2_with fail
  refine (as_fault_none t ⟨w.heap.size, 0, none⟩ n).mono ?_
  rintro e w' ⟨rfl, hb1⟩
  go_wp2
  go_ret
  exact ⟨rfl, HB.out.trans (hb1.mono (by simp; omega))⟩

/-! ### errors.Is -/
theorem eqlEE (a b : Int) (w : World) : (binOp .eql 26 (.iface 83 (.int .i64 a)) (.iface 83 (.int .i64 b))).run Tryz.prog w = .ok (.bool (a == b)) w := by
  have hc : (Tryz.prog.info? 83).map (·.comparable) = some true := by kernel_rfl
  obtain ⟨i, hi, hcmp⟩ := Option.map_eq_some_iff.1 hc
  have h : ∀ d : Nat, (Op.equalIn (d + 2) 26 (.iface 83 (.int .i64 a)) (.iface 83 (.int .i64 b))).run Tryz.prog w = .ok (a == b) w := fun d => by
    simp [Op.equalIn, run_underlying Tryz.underlying26, run_underlying Tryz.underlying83, typeInfo, hi, hcmp]
  simp only [binOp]
  simp [Op.equal, Op.maxDepth, h 9998]
theorem eqlFE (v u : Value) (w : World) : (binOp .eql 26 (.iface 84 v) (.iface 83 u)).run Tryz.prog w = .ok (.bool false) w :=
  run_eql_iface_types 84 83 v u Tryz.underlying26 (by decide) w

set_option maxRecDepth 1000000 in
/-- errors.is: is the number of the chain the one that is asked for? -/
theorem is_num {W : World} (n m : Int) (E : Value) (l : List ByteArray) (hch : Chain W n l E) :
    Calls Tryz.prog 151 #[E, .iface 83 (.int .i64 m), .bool true] W fun e w' => e = .returned (.bool (n == m)) ∧ W = w' := by
  have f6 := mUnwrap
  have f7 := noIsE
  have f8 := noIsF
  have f9 := hasUnF
  have f10 := noUnE
  have f11 := noUnsE
  have f13 := eqlFE
  go_enter Tryz.func151, Tryz.ntmps151
  go_wp2
  go_loopw [0] (fun E' wl => wl = W ∧ ∃ l', Chain W n l' E') (fun E' _ => chainLen W n E')
  case atStart => exact ⟨rfl, l, hch⟩
  case round =>
    obtain ⟨rfl, l', hc'⟩ := hrel
    cases hc' with
    | leaf =>
      by_cases hnm : n = m
      · subst hnm
        have f12 : ∀ w : World, (binOp .eql 26 (.iface 83 (.int .i64 n)) (.iface 83 (.int .i64 n))).run Tryz.prog w = .ok (.bool true) w := fun w => by rw [eqlEE]; simp
        go_wp2
        go_ret
        exact ⟨by simp, rfl⟩
      · have hb : (n == m) = false := by simpa using hnm
        have f12 : ∀ w : World, (binOp .eql 26 (.iface 83 (.int .i64 n)) (.iface 83 (.int .i64 m))).run Tryz.prog w = .ok (.bool false) w := fun w => by rw [eqlEE, hb]
        have HB := Lib.hid hb
        clear hnm hb
        go_wp2
        go_ret
        exact ⟨by rw [HB.out]; rfl, rfl⟩
    | wrap b c E1 l1 hb0 hb1 h1 =>
      obtain ⟨u1, v1, rfl⟩ := h1.iface
      have hlen := chainLen_eq h1
      have hlen0 := chainLen_eq (Chain.wrap b c _ l1 hb0 hb1 h1)
      have HC := Lib.hid h1
      have HL : Hid (chainLen wr n (.iface u1 v1) < chainLen wr n (.iface 84 (.pointer (some ⟨b, 0, none⟩)))) := by
        show _ < _
        rw [hlen, hlen0]; simp
      clear h1 hlen hlen0
      go_wp2
      go_roundw
      case rel => exact ⟨trivial, l1, HC.out⟩
      case measure => exact HL.out

theorem Is_num {W : World} (n m : Int) (E : Value) (l : List ByteArray) (hch : Chain W n l E) :
    Calls Tryz.prog 135 #[E, .iface 83 (.int .i64 m)] W fun e w' => e = .returned (.bool (n == m)) ∧ W = w' := by
  have c1 := callTypeOf
  have c2 := callComp
  have f1 := typeOfE
  have f2 := compE
  have f3 := mComp
  have HC := Lib.hid hch
  obtain ⟨u, v, rfl⟩ := hch.iface
  clear hch
  go_enter Tryz.func135, Tryz.ntmps135
  go_wp2_with fail
  refine (is_num n m _ l HC.out).mono ?_
  rintro e w' ⟨rfl, rfl⟩
  go_wp2
  go_ret
  exact ⟨rfl, rfl⟩

theorem Is_nil (m : Int) (w : World) : Calls Tryz.prog 135 #[.nilIface, .iface 83 (.int .i64 m)] w fun e w' => e = .returned (.bool false) ∧ w = w' := by
  have hn := run_eql_iface_nil_left (P := Tryz.prog) w 83 (.int .i64 m) Tryz.underlying26
  go_enter Tryz.func135, Tryz.ntmps135
  go_wp2
  go_ret
  exact ⟨rfl, rfl⟩
end Go.Proofs.YtkhdjjcflbdegaaGreatDoor
end

section
/- Package fault by contracts: New, Wrap, Num, first, Call, Is at a chain of faults round a number, and at no error. -/
namespace Go.Proofs.YtkhdjjcflbdegaaGreatDoor
open Go.RowKit Go.Extern.Stop Go.Stop Go.Extern

/-! ### New, Wrap -/
theorem New_zero (c : ByteArray) (w : World) : Calls Tryz.prog 42 #[.string c, .int .i64 0] w fun e w' => e = .returned .nilIface ∧ w = w' := by
  go_enter Tryz.func42, Tryz.ntmps42
  go_wp2
  go_ret
  exact ⟨rfl, rfl⟩

theorem New_some (c : ByteArray) (n : Int) (hn : n ≠ 0) (w : World) : Calls Tryz.prog 42 #[.string c, .int .i64 n] w fun e w' =>
    e = .returned (.iface 84 (.pointer (some ⟨w.heap.size, 0, none⟩))) ∧ w.alloc (.cells #[.string c, .iface 83 (.int .i64 n)] 89) = w' := by
  have hb : (n == 0) = false := by simpa using hn
  go_enter Tryz.func42, Tryz.ntmps42
  go_wp2
  go_ret
  exact ⟨rfl, rfl⟩

theorem Wrap_nil (c : ByteArray) (w : World) : Calls Tryz.prog 31 #[.string c, .nilIface] w fun e w' => e = .returned .nilIface ∧ w = w' := by
  go_enter Tryz.func31, Tryz.ntmps31
  go_wp2
  go_ret
  exact ⟨rfl, rfl⟩

theorem Wrap_some (c : ByteArray) (u : TypeId) (v : Value) (w : World) : Calls Tryz.prog 31 #[.string c, .iface u v] w fun e w' =>
    e = .returned (.iface 84 (.pointer (some ⟨w.heap.size, 0, none⟩))) ∧ w.alloc (.cells #[.string c, .iface u v] 89) = w' := by
  go_enter Tryz.func31, Tryz.ntmps31
  go_wp2
  go_ret
  exact ⟨rfl, rfl⟩

/-- A new fault round a chain is a chain. -/
theorem Chain.cons {w : World} {n : Int} {E : Value} {l : List ByteArray} (h : Chain w n l E) (c : ByteArray) :
    Chain (w.alloc (.cells #[.string c, E] 89)) n (c :: l) (.iface 84 (.pointer (some ⟨w.heap.size, 0, none⟩))) := by
  have hb : Below w.heap.size w (w.alloc (.cells #[.string c, E] 89)) := (Below.refl _ _).alloc (Nat.le_refl _) _
  exact .wrap _ c E l (by rw [World.cell?_alloc_at _ _ _ _ (by simp)]; rfl) (by rw [World.cell?_alloc_at _ _ _ _ (by simp)]; rfl) (h.mono hb)

/-- New of a number: a chain of one. -/
theorem New_chain (c : ByteArray) (n : Int) (hn : n ≠ 0) (w : World) : Calls Tryz.prog 42 #[.string c, .int .i64 n] w fun e w' =>
    ∃ E, e = .returned E ∧ Chain w' n [c] E ∧ Below w.heap.size w w' := by
  refine (New_some c n hn w).mono ?_
  rintro e w' ⟨rfl, rfl⟩
  exact ⟨_, rfl, Chain.leaf.cons c, (Below.refl _ _).alloc (Nat.le_refl _) _⟩

theorem Wrap_chain (c : ByteArray) (n : Int) (l : List ByteArray) (E : Value) (w : World) (h : Chain w n l E) : Calls Tryz.prog 31 #[.string c, E] w fun e w' =>
    ∃ E', e = .returned E' ∧ Chain w' n (c :: l) E' ∧ Below w.heap.size w w' := by
  obtain ⟨u, v, rfl⟩ := h.iface
  refine (Wrap_some c u v w).mono ?_
  rintro e w' ⟨rfl, rfl⟩
  exact ⟨_, rfl, h.cons c, (Below.refl _ _).alloc (Nat.le_refl _) _⟩

/-! ### the deferred closures: nothing panics, nothing is recovered -/
/-! ### Num -/
/-! ### first -/
/-! ### Call -/
/-! ### Is -/
end Go.Proofs.YtkhdjjcflbdegaaGreatDoor
end

section
/- What fault.New gives, as the packages above it say it: none, or a number under their own name. -/
namespace Go.Proofs.YtkhdjjcflbdegaaGreatDoor
open Go.RowKit Go.Extern.Stop Go.Stop Go.Extern

def ErrAns (k : Int) (c : ByteArray) (w : World) (E : Value) : Prop := (k = 0 ∧ E = .nilIface) ∨ (k ≠ 0 ∧ ∃ ls, Chain w k (c :: ls) E)
theorem ErrAns.mono {k : Int} {c : ByteArray} {w w' : World} {E : Value} (h : ErrAns k c w E) (hb : Below w.heap.size w w') : ErrAns k c w' E := by
  rcases h with h | ⟨h1, ls, h2⟩
  · exact .inl h
  · exact .inr ⟨h1, ls, h2.mono hb⟩
theorem ErrAns.none (c : ByteArray) (w : World) : ErrAns 0 c w .nilIface := .inl ⟨rfl, rfl⟩
theorem ErrAns.some {k : Int} {c : ByteArray} {w : World} {E : Value} (h : ErrAns k c w E) (hk : k ≠ 0) : ∃ u v, E = .iface u v := by
  rcases h with ⟨h, _⟩ | ⟨_, ls, h2⟩
  · exact absurd h hk
  · exact h2.iface
theorem New_ans (c : ByteArray) (n : Int) (hn : n ≠ 0) (w : World) : Calls Tryz.prog 42 #[.string c, .int .i64 n] w fun e w' =>
    ∃ E, e = .returned E ∧ ErrAns n c w' E ∧ Below w.heap.size w w' := by
  refine (New_chain c n hn w).mono ?_
  rintro e w' ⟨E, rfl, h, hb⟩
  exact ⟨E, rfl, .inr ⟨hn, [], h⟩, hb⟩
theorem Chain.kept2 {k : Int} {l : List ByteArray} {w w' : World} {E : Value} (h : Chain w k l E) (hs : ∀ b s, w.cell? ⟨b, 0, none⟩ = some (.string s) → w'.heap[b]? = w.heap[b]?) : Chain w' k l E := by
  induction h with
  | leaf => exact .leaf
  | wrap b c E1 l1 hc he _ ih => exact .wrap b c E1 l1 ((World.cell?_of_block (w := w) (a := ⟨b, 0, none⟩) (hs _ _ hc)).trans hc) ((World.cell?_of_block (w := w) (a := ⟨b, 1, none⟩) (hs _ _ hc)).trans he) ih
theorem errAns_kept2 {k : Int} {c : ByteArray} {w w' : World} {E : Value} (h : ErrAns k c w E) (hs : ∀ b s, w.cell? ⟨b, 0, none⟩ = some (.string s) → w'.heap[b]? = w.heap[b]?) : ErrAns k c w' E := by
  rcases h with h | ⟨h1, ls, h2⟩
  · exact .inl h
  · exact .inr ⟨h1, ls, h2.kept2 hs⟩
end Go.Proofs.YtkhdjjcflbdegaaGreatDoor
end
