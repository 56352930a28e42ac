import Derived.Test.YticoaioeeppapaaGreatDoorG10
import Derived.Test.YticoaioeeppapaaGreatDoorG07
import Derived.OwnWalk
import Derived.WalkSpells
import Derived.WalkLawsBesides
import Derived.Test.YticoaioeeppapaaGreatDoorChecked
import Derived.WalkKit
import Derived.LaidEql
import Derived.Stop.Asserts
import Derived.RowKitTokens
import Derived.Lib.Hide
import Derived.Elder7

section
/- Package params: choose, row by row. -/
namespace Go.Proofs.YticoaioeeppapaaGreatDoor
open Go.RowKit Go.Extern.Stop Go.Stop Go.Extern

/-- A row of ways to choose of j. -/
def rowC (j : Nat) : List Int := (List.range (j + 1)).map fun i => ((ch j i : Nat) : Int)
theorem rowC_len (j : Nat) : (rowC j).length = j + 1 := by simp [rowC]
theorem rowC_get (j i : Nat) (h : i ≤ j) : (rowC j)[i]? = some ((ch j i : Nat) : Int) := by
  have : i < j + 1 := by omega
  simp [rowC, List.getElem?_range this]
/-- The next row, t of its sums done. -/
def nxt (j t i : Nat) : Int := (if i = 0 then 0 else ((ch j (i - 1) : Nat) : Int)) + (if i < t ∧ i ≤ j then ((ch j i : Nat) : Int) else 0)
def nxtL (j t : Nat) : List Int := (List.range (j + 2)).map (nxt j t)
theorem nxtL_len (j t : Nat) : (nxtL j t).length = j + 2 := by simp [nxtL]
theorem nxtL_get (j t i : Nat) (h : i < j + 2) : (nxtL j t)[i]? = some (nxt j t i) := by
  simp [nxtL, List.getElem?_range h]
theorem nxt_at (j i : Nat) : nxt j i i = if i = 0 then 0 else ((ch j (i - 1) : Nat) : Int) := by
  unfold nxt; rw [if_neg (by omega : ¬ (i < i ∧ i ≤ j))]; omega
theorem nxtL_start (j : Nat) : splice (List.replicate (j + 2) 0) 1 (rowC j) = nxtL j 0 := by
  apply List.ext_getElem?
  intro i
  have hl : (splice (List.replicate (j + 2) 0) 1 (rowC j)).length = j + 2 := by rw [length_splice _ _ _ (by rw [rowC_len]; simp; omega)]; simp
  rcases Nat.lt_or_ge i (j + 2) with h | h
  · rw [nxtL_get j 0 i h]
    unfold nxt
    rw [if_neg (by omega : ¬ (i < 0 ∧ i ≤ j))]
    unfold splice
    cases i with
    | zero => simp
    | succ i =>
      rw [List.getElem?_append_right (by simp), List.getElem?_append_left (by rw [rowC_len]; simp; omega)]
      simp only [List.length_take, List.length_replicate]
      rw [show i + 1 - min 1 (j + 2) = i by omega, rowC_get j i (by omega)]
      simp
  · rw [List.getElem?_eq_none (by omega), List.getElem?_eq_none (by rw [nxtL_len]; omega)]
theorem nxtL_step (j t : Nat) (h : t ≤ j) : (nxtL j t).set t (nxt j t t + ((ch j t : Nat) : Int)) = nxtL j (t + 1) := by
  apply List.ext_getElem?
  intro i
  rw [List.getElem?_set]
  rcases Nat.lt_or_ge i (j + 2) with hi | hi
  · rw [nxtL_get j t i hi, nxtL_get j (t + 1) i hi]
    by_cases e : t = i
    · subst e
      rw [if_pos rfl, if_pos (by rw [nxtL_len]; omega), nxt_at]
      unfold nxt
      rw [if_pos (by omega : t < t + 1 ∧ t ≤ j)]
    · rw [if_neg e]
      unfold nxt
      congr 2
      by_cases h2 : i < t
      · by_cases h3 : i ≤ j
        · rw [if_pos (by omega), if_pos (by omega)]
        · rw [if_neg (by omega), if_neg (by omega)]
      · rw [if_neg (by omega), if_neg (by omega)]
  · rw [List.getElem?_eq_none (by rw [nxtL_len]; omega), List.getElem?_eq_none (by rw [nxtL_len]; omega), if_neg (by omega)]
theorem nxtL_end (j : Nat) : nxtL j (j + 1) = rowC (j + 1) := by
  apply List.ext_getElem?
  intro i
  rcases Nat.lt_or_ge i (j + 2) with hi | hi
  · rw [nxtL_get j _ i hi, rowC_get (j + 1) i (by omega)]
    unfold nxt
    congr 1
    cases i with
    | zero => rw [if_pos rfl, if_pos (by omega), ch_zero, ch_zero]; rfl
    | succ i =>
      rw [if_neg (by omega), ch_succ, show i + 1 - 1 = i by omega]
      by_cases h2 : i + 1 ≤ j
      · rw [if_pos (by omega)]; omega
      · rw [if_neg (by omega), ch_over j (i + 1) (by omega)]; rfl
  · rw [List.getElem?_eq_none (by rw [nxtL_len]; omega), List.getElem?_eq_none (by rw [rowC_len]; omega)]
theorem nxt_bound (j t : Nat) (hj : j ≤ 60) : 0 ≤ nxt j t t ∧ nxt j t t ≤ 283726776524341248 := by
  rw [nxt_at]
  split
  · omega
  · have := ch_bound j (t - 1) hj
    omega

/-- A row of numbers that is a block of its own. -/
def RowIs (w : World) (B g : Nat) (xs : List Int) : Prop := B ≤ g ∧ w.heap[g]? = some (.cells (xs.map intV).toArray 3 (0, 0))
theorem RowIs.cell {w : World} {B g i : Nat} {xs : List Int} {x : Int} (h : RowIs w B g xs) (hi : xs[i]? = some x) : w.cell? ⟨g, i, none⟩ = some (.int .i64 x) :=
  cell_of_heap h.2 (by simp [hi, intV])
theorem RowIs.frozen {w : World} {B g i : Nat} {xs : List Int} (h : RowIs w B g xs) : w.frozen? ⟨g, i, none⟩ = false := frozen_of_heap h.2
theorem RowIs.lt {w : World} {B g : Nat} {xs : List Int} (h : RowIs w B g xs) : g < w.heap.size := (Array.getElem?_eq_some_iff.1 h.2).1
theorem RowIs.mono {w w' : World} {B g : Nat} {xs : List Int} (h : RowIs w B g xs) (hb : Below w.heap.size w w') : RowIs w' B g xs := ⟨h.1, (hb.block g h.lt).trans h.2⟩
theorem RowIs.set {w : World} {B g : Nat} {xs : List Int} (h : RowIs w B g xs) (i : Nat) (x : Int) : RowIs (w.setCell ⟨g, i, none⟩ (.int .i64 x)) B g (xs.set i x) := by
  refine ⟨h.1, ?_⟩
  rw [heap_setCell_at h.2, List.map_set]
  simp [intV]
theorem RowIs.other {w : World} {B g g' : Nat} {xs : List Int} (h : RowIs w B g xs) (hne : g ≠ g') (i : Nat) (u : Value) : RowIs (w.setCell ⟨g', i, none⟩ u) B g xs := by
  refine ⟨h.1, ?_⟩
  rw [← h.2]
  simp only [World.setCell, Array.getElem?_modify]
  rw [if_neg (by simpa using fun e => hne e.symm)]

set_option maxRecDepth 1000000 in
set_option maxHeartbeats 4000000 in
theorem choose_any {w : World} (n k : Nat) (hn : n ≤ 60) (hk : k ≤ n) : Calls Tryz.prog 72 #[.int .i64 (n : Int), .int .i64 (k : Int)] w fun e w' => e = .returned (.int .i64 ((ch n k : Nat) : Int)) ∧ Below w.heap.size w w' := by
  obtain ⟨i0, hi, hz0, hz1, hz2⟩ := info_parts info_int
  go_enter Tryz.func72, Tryz.ntmps72
  go_wp2_with fail
  go_loopw [5, 11] (fun v i wr => ∃ j : Nat, j ≤ n ∧ i = .int .i64 (j : Int) ∧ (∃ g m : Nat, m = j + 1 ∧ v = .slice (some ⟨g, 0, none⟩) m m ∧ RowIs wr w.heap.size g (rowC j)) ∧ Below w.heap.size w wr) (fun _ i _ => n - (intOf i).toNat)
  case atStart =>
    refine ⟨0, by omega, rfl, ⟨w.heap.size, 1, rfl, rfl, Nat.le_refl _, ?_⟩, (Below.refl _ _).alloc (Nat.le_refl _) _⟩
    exact heap_alloc_new w _
  case round =>
    obtain ⟨j, hj, rfl, ⟨g, m, hm, rfl, hrow⟩, hbel⟩ := hrel
    have HR := Lib.hid hrow
    have HB := Lib.hid hbel
    have hsz := hbel.size
    have HM := Lib.hid hm
    have hmb : m ≤ 61 := by omega
    have hglt := hrow.lt
    clear hrow hbel hm
    by_cases hlt : j < n
    · have hm0 : ¬ m = 0 := by have := HM.out; omega
      have hm1 : ¬ m + 1 = 1 := by omega
      have HSRC : Hid (∀ w0, Below wr.heap.size wr w0 → ∀ (i : Nat) (u : Value), ((rowC j).map intV)[i]? = some u → w0.cell? ((⟨g, 0, none⟩ : Addr).add i) = some u) := Lib.hid fun w0 hb i u hu => by
        rw [Go.WideShapes.add_plain, Nat.zero_add]
        exact cell_of_heap (HR.out.mono hb).2 (by simpa using hu)
      go_wp2_with (first
        | (at_make; refine wpList_make_full _ rfl _ _ 24 rfl w.heap.size 3 i0 (.int .i64 0) 1 Tryz.underlying24 hi hz0 hz1 .i64 .i64 _ _ (m + 1) rfl rfl (by omega) (by omega) (by rw [hz2]; omega) (by unfold maxLen; omega) hsz ?_; intro w0 hown0 hgrow0; have hb0 := Lib.hid ((Below.refl wr.heap.size wr).grown hgrow0 (Nat.le_refl _) (fun k hk => by cases hk)); have ho0 := Lib.hid (toList_madeCells_one (.int .i64 0) (m + 1) ▸ (Nat.mul_one (m + 1) ▸ (own_full hown0).2.2)); clear hown0 hgrow0)
        | ((with_reducible show wpList _ _ _ (⟨some 20, _, _, _, _, _⟩ :: _) _ _); refine wpList_copy_splice rfl (.tmp 18) (.tmp 19) 24 24 rfl 3 Tryz.underlying24 (by rw [hi]; exact congrArg some hz1) (some ⟨wr.heap.size, 1, none⟩) (some ⟨g, 0, none⟩) m m m m rfl rfl wr.heap.size 1 (List.replicate (m + 1) (intV 0)) 3 ho0.out ((rowC j).map intV) (by rw [List.length_map, rowC_len, ← HM.out]; simp) (fun hp => ⟨rfl, ⟨g, 0, none⟩, rfl, HSRC.out w0 hb0.out⟩) (by rw [List.length_map, rowC_len, List.length_replicate]; have := HM.out; omega) (fun u hu => by obtain ⟨y, _, rfl⟩ := List.mem_map.1 hu; rfl) wr.heap.size wr hb0.out (Nat.le_refl _) ?_; intro w2 hg2 hb2; have HG2 := hg2; have HB2 := Lib.hid hb2; clear hg2 hb2))
      have hrep : List.replicate (m + 1) (intV 0) = (List.replicate (j + 2) 0).map intV := by rw [List.map_replicate, HM.out]
      have hspl : ∀ (L cs : List Int) (o : Nat), splice (L.map intV) o (cs.map intV) = (splice L o cs).map intV := fun L cs o => by simp [splice]
      have h2 := HG2.out
      rw [hrep, hspl, nxtL_start] at h2
      have HR2 : Hid (RowIs w2 w.heap.size wr.heap.size (nxtL j 0)) := Lib.hid ⟨hsz, h2⟩
      have HR1 := Lib.hid (HR.out.mono HB2.out)
      have HBB := Lib.hid (HB.out.trans (HB2.out.mono hsz))
      clear hrep hspl h2 HG2 HB2 ho0 hb0 HSRC HR HB
      obtain ⟨wo, hwo⟩ : ∃ wo, wo = wr := ⟨_, rfl⟩
      subst hwo
      generalize wo.heap.size = G at *
      go_loopw [23] (fun i wy => ∃ t : Nat, t ≤ m ∧ i = .int .i64 (t : Int) ∧ (RowIs wy w.heap.size G (nxtL j t) ∧ RowIs wy w.heap.size g (rowC j)) ∧ Below w.heap.size w wy) (fun i _ => m - (intOf i).toNat)
      case atStart => exact ⟨0, Nat.zero_le _, rfl, ⟨HR2.out, HR1.out⟩, HBB.out⟩
      case round =>
        clear HR2 HR1 HBB
        obtain ⟨t, ht, rfl, ⟨hr2, hr1⟩, hbel⟩ := hrel
        have HB := Lib.hid hbel
        have HR2 := Lib.hid hr2
        have HR1 := Lib.hid hr1
        clear hr1 hr2 hbel
        by_cases hlt2 : t < m
        · have htj : t ≤ j := by have := HM.out; omega
          have hx1 := HR1.out.cell (rowC_get j t htj)
          have hx2 := HR2.out.cell (nxtL_get j t t (by omega))
          have hf2 : wr.frozen? ⟨G, t, none⟩ = false := HR2.out.frozen
          have hb1 := ch_bound j t (by omega)
          have hb2 := nxt_bound j t (by omega)
          have HSET := Lib.hid (nxtL_step j t htj)
          have HNE : Hid (g ≠ G) := Lib.hid (by omega)
          clear htj
          generalize nxt j t t = Y at *
          generalize ch j t = X at *
          go_wp2
          go_roundw
          case rel => exact ⟨t + 1, by omega, by go_num, ⟨by rw [← HSET.out]; exact HR2.out.set t _, HR1.out.other HNE.out t _⟩, HB.out.setCell (p := ⟨G, t, none⟩) HR2.out.1 _⟩
          case measure => simp [intOf]; omega
        · have htm : t = m := by omega
          have HE : Hid (nxtL j t = rowC (j + 1)) := Lib.hid (by rw [htm, HM.out, nxtL_end])
          clear htm
          go_wp2
          go_roundw
          case rel => exact ⟨j + 1, by omega, by go_num, ⟨G, m + 1, by have := HM.out; omega, rfl, by rw [← HE.out]; exact HR2.out⟩, HB.out⟩
          case measure => simp [intOf]; omega
    · have hkj : k ≤ j := by omega
      have hx := HR.out.cell (rowC_get j k hkj)
      have HJ : Hid (ch n k = ch j k) := Lib.hid (by rw [show j = n by omega])
      have hkm : k < m := by have := HM.out; omega
      go_wp2
      go_ret
      exact ⟨by rw [HJ.out]; rfl, HB.out⟩
end Go.Proofs.YticoaioeeppapaaGreatDoor
end

section
/- Closed facts on errors.As and errors.Is at the project's own error types (api.Errno, *api.Fault): what the model's entries for internal/reflectlite answer at this program's types, and what the two method sets hold. -/
namespace Go.Proofs.YticoaioeeppapaaGreatDoor
open Go.RowKit Go.Extern.Stop Go.Stop Go.Extern

/-- The number of package-level variables; the fuel of a method's look-up. -/
abbrev gN : Nat := 3
abbrev mN : Nat := 350

/-- The method is the handle of type t. -/
abbrev hd (t : Nat) : Value := .pointer (some ⟨gN, t, none⟩)
abbrev rt (t : Nat) : Value := .iface 149 (.agg #[hd t])

/-! ### what 'reflectlite.TypeOf', 'AssignableTo' .. answer -/
theorem typeOfE (v : Value) (w : World) : (ReflectliteType.typeOf #[.iface 67 v]).run Tryz.prog w = .ok (.iface 149 (.agg #[.pointer (some ⟨3, 67, none⟩)])) w := by kernel_rfl
theorem typeOfF (v : Value) (w : World) : (ReflectliteType.typeOf #[.iface 69 v]).run Tryz.prog w = .ok (.iface 149 (.agg #[.pointer (some ⟨3, 69, none⟩)])) w := by kernel_rfl
theorem assEE (w : World) : (ReflectliteType.relation "AssignableTo" ReflectliteType.assignableTo #[.agg #[.pointer (some ⟨3, 67, none⟩)], .iface 149 (.agg #[.pointer (some ⟨3, 67, none⟩)])]).run Tryz.prog w = .ok (.bool true) w := by kernel_rfl
theorem assFF (w : World) : (ReflectliteType.relation "AssignableTo" ReflectliteType.assignableTo #[.agg #[.pointer (some ⟨3, 69, none⟩)], .iface 149 (.agg #[.pointer (some ⟨3, 69, none⟩)])]).run Tryz.prog w = .ok (.bool true) w := by kernel_rfl
theorem assFE (w : World) : (ReflectliteType.relation "AssignableTo" ReflectliteType.assignableTo #[.agg #[.pointer (some ⟨3, 69, none⟩)], .iface 149 (.agg #[.pointer (some ⟨3, 67, none⟩)])]).run Tryz.prog w = .ok (.bool false) w := by kernel_rfl
theorem assEF (w : World) : (ReflectliteType.relation "AssignableTo" ReflectliteType.assignableTo #[.agg #[.pointer (some ⟨3, 67, none⟩)], .iface 149 (.agg #[.pointer (some ⟨3, 69, none⟩)])]).run Tryz.prog w = .ok (.bool false) w := by kernel_rfl

theorem mKind (h : Value) (w : World) : (Go.method 350 149 (.agg #[h]) "Kind").run Tryz.prog w = .ok (175, h) w := by kernel_rfl
theorem mElem (h : Value) (w : World) : (Go.method 350 149 (.agg #[h]) "Elem").run Tryz.prog w = .ok (188, .agg #[h]) w := by kernel_rfl
theorem mImpl (h : Value) (w : World) : (Go.method 350 149 (.agg #[h]) "Implements").run Tryz.prog w = .ok (189, .agg #[h]) w := by kernel_rfl
theorem mAss (h : Value) (w : World) : (Go.method 350 149 (.agg #[h]) "AssignableTo").run Tryz.prog w = .ok (186, .agg #[h]) w := by kernel_rfl
theorem mComp (h : Value) (w : World) : (Go.method 350 149 (.agg #[h]) "Comparable").run Tryz.prog w = .ok (187, .agg #[h]) w := by kernel_rfl
theorem mUnwrap (v : Value) (w : World) : (Go.method 350 69 v "Unwrap").run Tryz.prog w = .ok (180, v) w := by kernel_rfl

/-! ### at the target *api.Errno -/
theorem valueOfPE (t : Addr) (w : World) : (ReflectliteValue.unpack (.iface 71 (.pointer (some t)))).run Tryz.prog w
    = .ok (.agg #[.pointer (some ⟨3, 71, none⟩), .pointer (some ⟨w.heap.size, 0, none⟩), .int .u64 150]) (w.alloc (.cells #[.pointer (some t)] 71)) := by kernel_rfl
theorem typePE (a : Addr) (w : World) : (ReflectliteValue.methodAny (ReflectliteValue.valueError "reflectlite.Value.Type" 0) (fun t _ _ _ => ReflectliteType.toType t) #[.agg #[.pointer (some ⟨3, 71, none⟩), .pointer (some a), .int .u64 150]]).run Tryz.prog w
    = .ok (.iface 149 (.agg #[.pointer (some ⟨3, 71, none⟩)])) w := by kernel_rfl
theorem kindPE (w : World) : ((ReflectliteType.abiMethod fun t => (fun a : Nat => Value.int IntKind.u8 (a : Int)) <$> Rtype.kind t) #[.pointer (some ⟨3, 71, none⟩)]).run Tryz.prog w = .ok (.int .u8 22) w := by kernel_rfl
theorem kindE (w : World) : ((ReflectliteType.abiMethod fun t => (fun a : Nat => Value.int IntKind.u8 (a : Int)) <$> Rtype.kind t) #[.pointer (some ⟨3, 67, none⟩)]).run Tryz.prog w = .ok (.int .u8 2) w := by kernel_rfl
theorem elemPE (w : World) : (ReflectliteType.method ReflectliteType.elem #[.agg #[.pointer (some ⟨3, 71, none⟩)]]).run Tryz.prog w = .ok (.iface 149 (.agg #[.pointer (some ⟨3, 67, none⟩)])) w := by kernel_rfl
theorem implE (w : World) : (ReflectliteType.relation "Implements" ReflectliteType.implements_ #[.agg #[.pointer (some ⟨3, 67, none⟩)], .iface 149 (.agg #[.pointer (some ⟨3, 28, none⟩)])]).run Tryz.prog w = .ok (.bool true) w := by kernel_rfl
theorem compE (w : World) : ((ReflectliteType.method fun t => do Rtype.noPackHeld "Comparable" t; (fun a => Value.bool a.comparable) <$> typeInfo t) #[.agg #[.pointer (some ⟨3, 67, none⟩)]]).run Tryz.prog w = .ok (.bool true) w := by kernel_rfl

/-! ### at the target **api.Fault -/
theorem valueOfPF (t : Addr) (w : World) : (ReflectliteValue.unpack (.iface 72 (.pointer (some t)))).run Tryz.prog w
    = .ok (.agg #[.pointer (some ⟨3, 72, none⟩), .pointer (some ⟨w.heap.size, 0, none⟩), .int .u64 150]) (w.alloc (.cells #[.pointer (some t)] 72)) := by kernel_rfl
theorem typePF (a : Addr) (w : World) : (ReflectliteValue.methodAny (ReflectliteValue.valueError "reflectlite.Value.Type" 0) (fun t _ _ _ => ReflectliteType.toType t) #[.agg #[.pointer (some ⟨3, 72, none⟩), .pointer (some a), .int .u64 150]]).run Tryz.prog w
    = .ok (.iface 149 (.agg #[.pointer (some ⟨3, 72, none⟩)])) w := by kernel_rfl
theorem kindPF (w : World) : ((ReflectliteType.abiMethod fun t => (fun a : Nat => Value.int IntKind.u8 (a : Int)) <$> Rtype.kind t) #[.pointer (some ⟨3, 72, none⟩)]).run Tryz.prog w = .ok (.int .u8 22) w := by kernel_rfl
theorem kindF (w : World) : ((ReflectliteType.abiMethod fun t => (fun a : Nat => Value.int IntKind.u8 (a : Int)) <$> Rtype.kind t) #[.pointer (some ⟨3, 69, none⟩)]).run Tryz.prog w = .ok (.int .u8 22) w := by kernel_rfl
theorem elemPF (w : World) : (ReflectliteType.method ReflectliteType.elem #[.agg #[.pointer (some ⟨3, 72, none⟩)]]).run Tryz.prog w = .ok (.iface 149 (.agg #[.pointer (some ⟨3, 69, none⟩)])) w := by kernel_rfl
theorem implF (w : World) : (ReflectliteType.relation "Implements" ReflectliteType.implements_ #[.agg #[.pointer (some ⟨3, 69, none⟩)], .iface 149 (.agg #[.pointer (some ⟨3, 28, none⟩)])]).run Tryz.prog w = .ok (.bool true) w := by kernel_rfl

/-! ### the method sets -/
theorem noIsE (v : Value) (xT : TypeId) (w : World) : (Instr.typeAssert (.iface 67 v) xT 151 true).run Tryz.prog w = .ok (.tuple #[.nilIface, .bool false]) w := run_typeAssert_lacksB Tryz.underlying151 (by kernel_rfl) (by kernel_rfl) v xT w
theorem noIsF (v : Value) (xT : TypeId) (w : World) : (Instr.typeAssert (.iface 69 v) xT 151 true).run Tryz.prog w = .ok (.tuple #[.nilIface, .bool false]) w := run_typeAssert_lacksB Tryz.underlying151 (by kernel_rfl) (by kernel_rfl) v xT w
theorem noAsE (v : Value) (xT : TypeId) (w : World) : (Instr.typeAssert (.iface 67 v) xT 162 true).run Tryz.prog w = .ok (.tuple #[.nilIface, .bool false]) w := run_typeAssert_lacksB Tryz.underlying162 (by kernel_rfl) (by kernel_rfl) v xT w
theorem noAsF (v : Value) (xT : TypeId) (w : World) : (Instr.typeAssert (.iface 69 v) xT 162 true).run Tryz.prog w = .ok (.tuple #[.nilIface, .bool false]) w := run_typeAssert_lacksB Tryz.underlying162 (by kernel_rfl) (by kernel_rfl) v xT w
theorem noUnE (v : Value) (xT : TypeId) (w : World) : (Instr.typeAssert (.iface 67 v) xT 154 true).run Tryz.prog w = .ok (.tuple #[.nilIface, .bool false]) w := run_typeAssert_lacksB Tryz.underlying154 (by kernel_rfl) (by kernel_rfl) v xT w
theorem noUnsE (v : Value) (xT : TypeId) (w : World) : (Instr.typeAssert (.iface 67 v) xT 156 true).run Tryz.prog w = .ok (.tuple #[.nilIface, .bool false]) w := run_typeAssert_lacksB Tryz.underlying156 (by kernel_rfl) (by kernel_rfl) v xT w
theorem hasUnF (v : Value) (xT : TypeId) (w : World) : (Instr.typeAssert (.iface 69 v) xT 154 true).run Tryz.prog w = .ok (.tuple #[.iface 69 v, .bool true]) w := run_typeAssert_hasB Tryz.underlying154 (by kernel_rfl) v xT w

/-! ### the entries that read or write memory -/
theorem partsPE (a : Addr) (w : World) : (ReflectliteValue.parts (.agg #[.pointer (some ⟨3, 71, none⟩), .pointer (some a), .int .u64 150])).run Tryz.prog w = .ok (some (71, a, 150)) w := by kernel_rfl
theorem partsPF (a : Addr) (w : World) : (ReflectliteValue.parts (.agg #[.pointer (some ⟨3, 72, none⟩), .pointer (some a), .int .u64 150])).run Tryz.prog w = .ok (some (72, a, 150)) w := by kernel_rfl
theorem partsEa (a : Addr) (w : World) : (ReflectliteValue.parts (.agg #[.pointer (some ⟨3, 67, none⟩), .pointer (some a), .int .u64 386])).run Tryz.prog w = .ok (some (67, a, 386)) w := by kernel_rfl
theorem partsE (a : Addr) (w : World) : (ReflectliteValue.parts (.agg #[.pointer (some ⟨3, 67, none⟩), .pointer (some a), .int .u64 130])).run Tryz.prog w = .ok (some (67, a, 130)) w := by kernel_rfl
theorem partsFa (a : Addr) (w : World) : (ReflectliteValue.parts (.agg #[.pointer (some ⟨3, 69, none⟩), .pointer (some a), .int .u64 406])).run Tryz.prog w = .ok (some (69, a, 406)) w := by kernel_rfl
theorem partsF (a : Addr) (w : World) : (ReflectliteValue.parts (.agg #[.pointer (some ⟨3, 69, none⟩), .pointer (some a), .int .u64 150])).run Tryz.prog w = .ok (some (69, a, 150)) w := by kernel_rfl
theorem valueOfE (n : Int) (w : World) : (ReflectliteValue.unpack (.iface 67 (.int .i64 n))).run Tryz.prog w
    = .ok (.agg #[.pointer (some ⟨3, 67, none⟩), .pointer (some ⟨w.heap.size, 0, none⟩), .int .u64 130]) (w.alloc (.cells #[.int .i64 n] 67)) := by kernel_rfl
theorem valueOfF (e : Addr) (w : World) : (ReflectliteValue.unpack (.iface 69 (.pointer (some e)))).run Tryz.prog w
    = .ok (.agg #[.pointer (some ⟨3, 69, none⟩), .pointer (some ⟨w.heap.size, 0, none⟩), .int .u64 150]) (w.alloc (.cells #[.pointer (some e)] 69)) := by kernel_rfl
theorem elemOfPE (w : World) : (Rtype.elem? 71).run Tryz.prog w = .ok (some 67) w := by kernel_rfl
theorem elemOfPF (w : World) : (Rtype.elem? 72).run Tryz.prog w = .ok (some 69) w := by kernel_rfl
theorem mkE (p : Addr) (w : World) : (ReflectliteValue.mk 67 p ReflectliteValue.flagAddr).run Tryz.prog w = .ok (.agg #[.pointer (some ⟨3, 67, none⟩), .pointer (some p), .int .u64 386]) w := by kernel_rfl
theorem mkF (p : Addr) (w : World) : (ReflectliteValue.mk 69 p ReflectliteValue.flagAddr).run Tryz.prog w = .ok (.agg #[.pointer (some ⟨3, 69, none⟩), .pointer (some p), .int .u64 406]) w := by kernel_rfl
theorem directE (w : World) : (Rtype.directlyAssignable 67 67).run Tryz.prog w = .ok true w := by kernel_rfl
theorem directF (w : World) : (Rtype.directlyAssignable 69 69).run Tryz.prog w = .ok true w := by kernel_rfl

theorem isNilPE (a p : Addr) (W : World) (ha : W.cell? a = some (.pointer (some p))) :
    (ReflectliteValue.method (ReflectliteValue.valueError "reflectlite.Value.IsNil" 0) ReflectliteValue.isNil #[.agg #[.pointer (some ⟨3, 71, none⟩), .pointer (some a), .int .u64 150]]).run Tryz.prog W = .ok (.bool false) W := by
  delta ReflectliteValue.method ReflectliteValue.method.match_2
  dsimp only [Array.casesOn, Array.getLit, List.size_toArray, List.length]
  rw [dif_pos (by rfl)]
  simp only [List.getElem_toArray, List.getElem_cons_zero, Sem.run_bind, partsPE, Result.andThen]
  simp [ReflectliteValue.isNil, loadVar, isAgg, underlying, Tryz.underlying71, ha, Result.andThen]
theorem isNilPF (a p : Addr) (W : World) (ha : W.cell? a = some (.pointer (some p))) :
    (ReflectliteValue.method (ReflectliteValue.valueError "reflectlite.Value.IsNil" 0) ReflectliteValue.isNil #[.agg #[.pointer (some ⟨3, 72, none⟩), .pointer (some a), .int .u64 150]]).run Tryz.prog W = .ok (.bool false) W := by
  delta ReflectliteValue.method ReflectliteValue.method.match_2
  dsimp only [Array.casesOn, Array.getLit, List.size_toArray, List.length]
  rw [dif_pos (by rfl)]
  simp only [List.getElem_toArray, List.getElem_cons_zero, Sem.run_bind, partsPF, Result.andThen]
  simp [ReflectliteValue.isNil, loadVar, isAgg, underlying, Tryz.underlying72, ha, Result.andThen]
theorem elemVPE (a p : Addr) (W : World) (ha : W.cell? a = some (.pointer (some p))) :
    (ReflectliteValue.method (ReflectliteValue.valueError "reflectlite.Value.Elem" 0) ReflectliteValue.elem #[.agg #[.pointer (some ⟨3, 71, none⟩), .pointer (some a), .int .u64 150]]).run Tryz.prog W
      = .ok (.agg #[.pointer (some ⟨3, 67, none⟩), .pointer (some p), .int .u64 386]) W := by
  delta ReflectliteValue.method ReflectliteValue.method.match_2
  dsimp only [Array.casesOn, Array.getLit, List.size_toArray, List.length]
  rw [dif_pos (by rfl)]
  simp only [List.getElem_toArray, List.getElem_cons_zero, Sem.run_bind, partsPE, Result.andThen]
  simp [ReflectliteValue.elem, loadVar, isAgg, underlying, Tryz.underlying71, ha, Result.andThen, elemOfPE, mkE]
theorem elemVPF (a p : Addr) (W : World) (ha : W.cell? a = some (.pointer (some p))) :
    (ReflectliteValue.method (ReflectliteValue.valueError "reflectlite.Value.Elem" 0) ReflectliteValue.elem #[.agg #[.pointer (some ⟨3, 72, none⟩), .pointer (some a), .int .u64 150]]).run Tryz.prog W
      = .ok (.agg #[.pointer (some ⟨3, 69, none⟩), .pointer (some p), .int .u64 406]) W := by
  delta ReflectliteValue.method ReflectliteValue.method.match_2
  dsimp only [Array.casesOn, Array.getLit, List.size_toArray, List.length]
  rw [dif_pos (by rfl)]
  simp only [List.getElem_toArray, List.getElem_cons_zero, Sem.run_bind, partsPF, Result.andThen]
  simp [ReflectliteValue.elem, loadVar, isAgg, underlying, Tryz.underlying72, ha, Result.andThen, elemOfPF, mkF]
theorem setE (ta b : Addr) (n : Int) (old : Value) (W : World) (hb : W.cell? b = some (.int .i64 n)) (ht : W.cell? ta = some old) (hf : W.frozen? ta = false) :
    (ReflectliteValue.set #[.agg #[.pointer (some ⟨3, 67, none⟩), .pointer (some ta), .int .u64 386], .agg #[.pointer (some ⟨3, 67, none⟩), .pointer (some b), .int .u64 130]]).run Tryz.prog W
      = .ok (.tuple #[]) (W.setCell ta (.int .i64 n)) := by
  delta ReflectliteValue.set ReflectliteValue.set.match_3
  dsimp only [Array.casesOn, Array.getLit, List.size_toArray, List.length]
  rw [dif_pos (by rfl)]
  simp only [List.getElem_toArray, List.getElem_cons_zero, List.getElem_cons_succ, Sem.run_bind, partsEa, partsE, Result.andThen]
  simp [ReflectliteValue.flagAddr, loadVar, isAgg, underlying, Tryz.underlying67, hb, Result.andThen, directE, storeVar, Value.cells, storeCells, Addr.add]
  rw [run_store Tryz.prog W ta _ _ (by rfl)]
  simp [ht, hf]
theorem setF (ta b e : Addr) (old : Value) (W : World) (hb : W.cell? b = some (.pointer (some e))) (ht : W.cell? ta = some old) (hf : W.frozen? ta = false) :
    (ReflectliteValue.set #[.agg #[.pointer (some ⟨3, 69, none⟩), .pointer (some ta), .int .u64 406], .agg #[.pointer (some ⟨3, 69, none⟩), .pointer (some b), .int .u64 150]]).run Tryz.prog W
      = .ok (.tuple #[]) (W.setCell ta (.pointer (some e))) := by
  delta ReflectliteValue.set ReflectliteValue.set.match_3
  dsimp only [Array.casesOn, Array.getLit, List.size_toArray, List.length]
  rw [dif_pos (by rfl)]
  simp only [List.getElem_toArray, List.getElem_cons_zero, List.getElem_cons_succ, Sem.run_bind, partsFa, partsF, Result.andThen]
  simp [ReflectliteValue.flagAddr, loadVar, isAgg, underlying, Tryz.underlying69, hb, Result.andThen, directF, storeVar, Value.cells, storeCells, Addr.add]
  rw [run_store Tryz.prog W ta _ _ (by rfl)]
  simp [ht, hf]

/-! ### the calls -/
theorem callTypeOf (args : Array Value) (w : World) : (callFunc 59 args).run Tryz.prog w = ((ReflectliteType.typeOf args).run Tryz.prog w).andThen fun v w' => .ok (.value v) w' :=
  @run_callFunc_extern Tryz.prog 59 _ ReflectliteType.typeOf Tryz.func59 (by kernel_rfl) (by kernel_rfl) (by kernel_rfl) (by kernel_rfl) args w
theorem callValueOf (args : Array Value) (w : World) : (callFunc 62 args).run Tryz.prog w = (((fun args => ReflectliteValue.unpack (args.getD 0 (.tuple #[]))) args).run Tryz.prog w).andThen fun v w' => .ok (.value v) w' :=
  @run_callFunc_extern Tryz.prog 62 _ (fun args => ReflectliteValue.unpack (args.getD 0 (.tuple #[]))) Tryz.func62 (by kernel_rfl) (by kernel_rfl) (by kernel_rfl) (by kernel_rfl) args w
theorem callType (args : Array Value) (w : World) : (callFunc 63 args).run Tryz.prog w = (((ReflectliteValue.methodAny (ReflectliteValue.valueError "reflectlite.Value.Type" 0) (fun t _ _ _ => ReflectliteType.toType t)) args).run Tryz.prog w).andThen fun v w' => .ok (.value v) w' :=
  @run_callFunc_extern Tryz.prog 63 _ (ReflectliteValue.methodAny (ReflectliteValue.valueError "reflectlite.Value.Type" 0) (fun t _ _ _ => ReflectliteType.toType t)) Tryz.func63 (by kernel_rfl) (by kernel_rfl) (by kernel_rfl) (by kernel_rfl) args w
theorem callIsNil (args : Array Value) (w : World) : (callFunc 64 args).run Tryz.prog w = (((ReflectliteValue.method (ReflectliteValue.valueError "reflectlite.Value.IsNil" 0) ReflectliteValue.isNil) args).run Tryz.prog w).andThen fun v w' => .ok (.value v) w' :=
  @run_callFunc_extern Tryz.prog 64 _ (ReflectliteValue.method (ReflectliteValue.valueError "reflectlite.Value.IsNil" 0) ReflectliteValue.isNil) Tryz.func64 (by kernel_rfl) (by kernel_rfl) (by kernel_rfl) (by kernel_rfl) args w
theorem callElem (args : Array Value) (w : World) : (callFunc 98 args).run Tryz.prog w = (((ReflectliteValue.method (ReflectliteValue.valueError "reflectlite.Value.Elem" 0) ReflectliteValue.elem) args).run Tryz.prog w).andThen fun v w' => .ok (.value v) w' :=
  @run_callFunc_extern Tryz.prog 98 _ (ReflectliteValue.method (ReflectliteValue.valueError "reflectlite.Value.Elem" 0) ReflectliteValue.elem) Tryz.func98 (by kernel_rfl) (by kernel_rfl) (by kernel_rfl) (by kernel_rfl) args w
theorem callSet (args : Array Value) (w : World) : (callFunc 99 args).run Tryz.prog w = ((ReflectliteValue.set args).run Tryz.prog w).andThen fun v w' => .ok (.value v) w' :=
  @run_callFunc_extern Tryz.prog 99 _ ReflectliteValue.set Tryz.func99 (by kernel_rfl) (by kernel_rfl) (by kernel_rfl) (by kernel_rfl) args w
theorem callKind (args : Array Value) (w : World) : (callFunc 175 args).run Tryz.prog w = (((ReflectliteType.abiMethod fun t => do pure (.int .u8 (← Rtype.kind t))) args).run Tryz.prog w).andThen fun v w' => .ok (.value v) w' :=
  @run_callFunc_extern Tryz.prog 175 _ (ReflectliteType.abiMethod fun t => do pure (.int .u8 (← Rtype.kind t))) Tryz.func175 (by kernel_rfl) (by kernel_rfl) (by kernel_rfl) (by kernel_rfl) args w
theorem callRElem (args : Array Value) (w : World) : (callFunc 188 args).run Tryz.prog w = (((ReflectliteType.method ReflectliteType.elem) args).run Tryz.prog w).andThen fun v w' => .ok (.value v) w' :=
  @run_callFunc_extern Tryz.prog 188 _ (ReflectliteType.method ReflectliteType.elem) Tryz.func188 (by kernel_rfl) (by kernel_rfl) (by kernel_rfl) (by kernel_rfl) args w
theorem callImpl (args : Array Value) (w : World) : (callFunc 189 args).run Tryz.prog w = (((ReflectliteType.relation "Implements" ReflectliteType.implements_) args).run Tryz.prog w).andThen fun v w' => .ok (.value v) w' :=
  @run_callFunc_extern Tryz.prog 189 _ (ReflectliteType.relation "Implements" ReflectliteType.implements_) Tryz.func189 (by kernel_rfl) (by kernel_rfl) (by kernel_rfl) (by kernel_rfl) args w
theorem callAss (args : Array Value) (w : World) : (callFunc 186 args).run Tryz.prog w = (((ReflectliteType.relation "AssignableTo" ReflectliteType.assignableTo) args).run Tryz.prog w).andThen fun v w' => .ok (.value v) w' :=
  @run_callFunc_extern Tryz.prog 186 _ (ReflectliteType.relation "AssignableTo" ReflectliteType.assignableTo) Tryz.func186 (by kernel_rfl) (by kernel_rfl) (by kernel_rfl) (by kernel_rfl) args w
theorem callComp (args : Array Value) (w : World) : (callFunc 187 args).run Tryz.prog w = (((ReflectliteType.method fun t => do Rtype.noPackHeld "Comparable" t; pure (.bool (← typeInfo t).comparable)) args).run Tryz.prog w).andThen fun v w' => .ok (.value v) w' :=
  @run_callFunc_extern Tryz.prog 187 _ (ReflectliteType.method fun t => do Rtype.noPackHeld "Comparable" t; pure (.bool (← typeInfo t).comparable)) Tryz.func187 (by kernel_rfl) (by kernel_rfl) (by kernel_rfl) (by kernel_rfl) args w
end Go.Proofs.YticoaioeeppapaaGreatDoor
end

section
/- errors.As at a chain of faults round a number: the number is found behind all of them; the outermost fault is found at once. -/
namespace Go.Proofs.YticoaioeeppapaaGreatDoor
open Go.RowKit Go.Extern.Stop Go.Stop Go.Extern

/-- A CHAIN of faults in the world: the calls from the outermost on, the number innermost. -/
inductive Chain (w : World) (n : Int) : List ByteArray → Value → Prop
  | leaf : Chain w n [] (.iface 67 (.int .i64 n))
  | wrap (b : Nat) (c : ByteArray) (E : Value) (l : List ByteArray) : w.cell? ⟨b, 0, none⟩ = some (.string c) → w.cell? ⟨b, 1, none⟩ = some E → Chain w n l E → Chain w n (c :: l) (.iface 69 (.pointer (some ⟨b, 0, none⟩)))

theorem Chain.unique {w : World} {n : Int} {E : Value} {l l' : List ByteArray} (h : Chain w n l E) (h' : Chain w n l' E) : l = l' := by
  induction h generalizing l' with
  | leaf => cases h'; rfl
  | wrap b c E1 l1 hc he h1 ih =>
    cases h' with
    | wrap _ c2 E2 l2 hc2 he2 h2 => rw [hc] at hc2; cases hc2; rw [he] at he2; cases he2; rw [ih h2]

theorem Chain.mono {w w' : World} {n : Int} {E : Value} {l : List ByteArray} (h : Chain w n l E) (hb : Below w.heap.size w w') : Chain w' n l E := by
  induction h with
  | leaf => exact .leaf
  | wrap b c E1 l1 hc he h1 ih =>
    have hlt : b < w.heap.size := World.block_lt_of_cell? w ⟨b, 0, none⟩ hc
    exact .wrap b c E1 l1 ((hb.cell (p := ⟨b, 0, none⟩) hlt).trans hc) ((hb.cell (p := ⟨b, 1, none⟩) hlt).trans he) ih

theorem Chain.iface {w : World} {n : Int} {E : Value} {l : List ByteArray} (h : Chain w n l E) : ∃ u v, E = .iface u v := by
  cases h <;> exact ⟨_, _, rfl⟩

open Classical in
/-- How many faults are left: the loop's measure. -/
noncomputable def chainLen (w : World) (n : Int) (E : Value) : Nat := if h : ∃ l, Chain w n l E then h.choose.length else 0
theorem chainLen_eq {w : World} {n : Int} {E : Value} {l : List ByteArray} (h : Chain w n l E) : chainLen w n E = l.length := by
  unfold chainLen
  rw [dif_pos ⟨l, h⟩]
  rw [Chain.unique (Exists.choose_spec (⟨l, h⟩ : ∃ l, Chain w n l E)) h]

set_option maxRecDepth 1000000 in
/-- errors.as at the target *api.Errno. -/
theorem as_num {W : World} (n : Int) (t a : Addr) (old : Value) (E : Value) (l : List ByteArray) (hch : Chain W n l E)
    (ht : W.cell? t = some old) (hf : W.frozen? t = false) (ha : W.cell? a = some (.pointer (some t))) :
    Calls Tryz.prog 65 #[E, .iface 71 (.pointer (some t)), .agg #[.pointer (some ⟨3, 71, none⟩), .pointer (some a), .int .u64 150], .iface 149 (.agg #[.pointer (some ⟨3, 67, none⟩)])] W
      fun e w' => e = .returned (.bool true) ∧ ∃ w1, Below W.heap.size W w1 ∧ w' = w1.setCell t (.int .i64 n) := by
  have c1 := callTypeOf
  have c2 := callAss
  have c3 := callElem
  have c4 := callValueOf
  have c5 := callSet
  have f1 := typeOfE
  have f2 := typeOfF
  have f3 := assEE
  have f4 := assFE
  have f5 := mAss
  have f6 := mUnwrap
  have f7 := noAsE
  have f8 := noAsF
  have f9 := hasUnF
  have f10 := valueOfE
  have htl : t.block < W.heap.size := World.block_lt_of_cell? W t ht
  have hal : a.block < W.heap.size := World.block_lt_of_cell? W a ha
  go_enter Tryz.func65, Tryz.ntmps65
  go_wp2
  go_loopw [0] (fun E' wl => wl = W.alloc (.cells #[.pointer (some ⟨3, 71, none⟩), .pointer (some a), .int .u64 150] 113) ∧ ∃ l', Chain W n l' E') (fun E' _ => chainLen W n E')
  case atStart => exact ⟨rfl, l, hch⟩
  case round =>
    obtain ⟨rfl, l', hc'⟩ := hrel
    cases hc' with
    | leaf =>
      have el := elemVPE a t (W.alloc (.cells #[.pointer (some ⟨3, 71, none⟩), .pointer (some a), .int .u64 150] 113)) (by rw [World.cell?_alloc_lt _ _ a hal]; exact ha)
      have st := setE t ⟨W.heap.size + 1, 0, none⟩ n old ((W.alloc (.cells #[.pointer (some ⟨3, 71, none⟩), .pointer (some a), .int .u64 150] 113)).alloc (.cells #[.int .i64 n] 67))
        (by rw [World.cell?_alloc_at _ _ _ _ (by simp)]; rfl)
        (by rw [World.cell?_alloc_lt _ _ t (by simp; omega), World.cell?_alloc_lt _ _ t htl]; exact ht)
        (by rw [World.frozen?_alloc_old _ _ t (by simp; omega), World.frozen?_alloc_old _ _ t (Nat.ne_of_lt htl)]; exact hf)
      go_wp2
      go_ret
      exact ⟨rfl, _, ((Below.refl _ _).alloc (Nat.le_refl _) _).alloc (by simp) _, rfl⟩
    | wrap b c E1 l1 hb0 hb1 h1 =>
      obtain ⟨u1, v1, rfl⟩ := h1.iface
      have hlen := chainLen_eq h1
      have hlen0 := chainLen_eq (Chain.wrap b c _ l1 hb0 hb1 h1)
      have HC : Hid (Chain W n l1 (.iface u1 v1)) := h1
      have HL : Hid (chainLen W n (.iface u1 v1) < chainLen W n (.iface 69 (.pointer (some ⟨b, 0, none⟩)))) := by
        show _ < _
        rw [hlen, hlen0]; simp
      clear h1 hlen hlen0
      have hbl : b < W.heap.size := World.block_lt_of_cell? W ⟨b, 0, none⟩ hb0
      have hb1' : (W.alloc (.cells #[.pointer (some ⟨3, 71, none⟩), .pointer (some a), .int .u64 150] 113)).cell? ⟨b, 1, none⟩ = some (.iface u1 v1) := by
        rw [World.cell?_alloc_lt _ _ ⟨b, 1, none⟩ hbl]; exact hb1
      go_wp2
      go_roundw
      case rel => exact ⟨trivial, l1, HC.out⟩
      case measure => exact HL.out

set_option maxRecDepth 1000000 in
/-- errors.as at the target **api.Fault: the outermost fault is the answer. -/
theorem as_fault {W : World} (t a p : Addr) (old : Value)
    (ht : W.cell? t = some old) (hf : W.frozen? t = false) (ha : W.cell? a = some (.pointer (some t))) :
    Calls Tryz.prog 65 #[.iface 69 (.pointer (some p)), .iface 72 (.pointer (some t)), .agg #[.pointer (some ⟨3, 72, none⟩), .pointer (some a), .int .u64 150], .iface 149 (.agg #[.pointer (some ⟨3, 69, none⟩)])] W
      fun e w' => e = .returned (.bool true) ∧ ∃ w1, Below W.heap.size W w1 ∧ w' = w1.setCell t (.pointer (some p)) := by
  have c1 := callTypeOf
  have c2 := callAss
  have c3 := callElem
  have c4 := callValueOf
  have c5 := callSet
  have f2 := typeOfF
  have f4 := assFF
  have f5 := mAss
  have f10 := valueOfF
  have htl : t.block < W.heap.size := World.block_lt_of_cell? W t ht
  have hal : a.block < W.heap.size := World.block_lt_of_cell? W a ha
  have el := elemVPF a t (W.alloc (.cells #[.pointer (some ⟨3, 72, none⟩), .pointer (some a), .int .u64 150] 113)) (by rw [World.cell?_alloc_lt _ _ a hal]; exact ha)
  have st := setF t ⟨W.heap.size + 1, 0, none⟩ p old ((W.alloc (.cells #[.pointer (some ⟨3, 72, none⟩), .pointer (some a), .int .u64 150] 113)).alloc (.cells #[.pointer (some p)] 69))
    (by rw [World.cell?_alloc_at _ _ _ _ (by simp)]; rfl)
    (by rw [World.cell?_alloc_lt _ _ t (by simp; omega), World.cell?_alloc_lt _ _ t htl]; exact ht)
    (by rw [World.frozen?_alloc_old _ _ t (by simp; omega), World.frozen?_alloc_old _ _ t (Nat.ne_of_lt htl)]; exact hf)
  go_enter Tryz.func65, Tryz.ntmps65
  go_wp2
  refine wp_loop_rounds 1 ?_
  rw [rounds_succ]
  go_wp2
  go_ret
  exact ⟨rfl, _, ((Below.refl _ _).alloc (Nat.le_refl _) _).alloc (by simp) _, rfl⟩

set_option maxRecDepth 1000000 in
/-- errors.as at the target **api.Fault: a bare number is no fault. -/
theorem as_fault_none {W : World} (t a : Addr) (n : Int) :
    Calls Tryz.prog 65 #[.iface 67 (.int .i64 n), .iface 72 (.pointer (some t)), .agg #[.pointer (some ⟨3, 72, none⟩), .pointer (some a), .int .u64 150], .iface 149 (.agg #[.pointer (some ⟨3, 69, none⟩)])] W
      fun e w' => e = .returned (.bool false) ∧ Below W.heap.size W w' := by
  have c1 := callTypeOf
  have c2 := callAss
  have f1 := typeOfE
  have f4 := assEF
  have f5 := mAss
  have f7 := noAsE
  have f8 := noUnE
  have f9 := noUnsE
  go_enter Tryz.func65, Tryz.ntmps65
  go_wp2
  refine wp_loop_rounds 1 ?_
  rw [rounds_succ]
  go_wp2
  go_ret
  exact ⟨rfl, (Below.refl _ _).alloc (Nat.le_refl _) _⟩

end Go.Proofs.YticoaioeeppapaaGreatDoor
end
