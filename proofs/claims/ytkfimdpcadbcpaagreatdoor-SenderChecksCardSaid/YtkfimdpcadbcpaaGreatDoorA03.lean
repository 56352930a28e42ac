import Derived.Test.YtkfimdpcadbcpaaGreatDoorChecked
import Derived.WalkKit
import Derived.LaidEql
import Derived.Stop.Asserts
import Derived.RowKitTokens
import Derived.Lib.Hide
import Derived.Elder7
import Derived.Defers
import Derived.Recover
import Derived.Laws.Pointers
import Derived.Test.YtkfimdpcadbcpaaGreatDoorA02
import Derived.Test.YtkfimdpcadbcpaaGreatDoorA01
set_option linter.unusedSimpArgs false
set_option linter.unusedVariables false
set_option maxRecDepth 1000000
set_option maxHeartbeats 8000000
namespace Go.Proofs.YtkfimdpcadbcpaaGreatDoor
section
open Go.RowKit Go.Extern.Stop Go.Stop Go.Extern
abbrev gN : Nat := 3
abbrev hd (t : Nat) : Value := .pointer (some ⟨gN, t, none⟩)
theorem zIH (v : Value) (w : World) : (ReflectliteType.typeOf #[.iface 72 v]).run Tryz.prog w = .ok (.iface 155 (.agg #[.pointer (some ⟨3, 72, none⟩)])) w := by kernel_rfl
theorem zJA (v : Value) (w : World) : (ReflectliteType.typeOf #[.iface 73 v]).run Tryz.prog w = .ok (.iface 155 (.agg #[.pointer (some ⟨3, 73, none⟩)])) w := by kernel_rfl
theorem assEE (w : World) : (ReflectliteType.relation "AssignableTo" ReflectliteType.assignableTo #[.agg #[.pointer (some ⟨3, 72, none⟩)], .iface 155 (.agg #[.pointer (some ⟨3, 72, none⟩)])]).run Tryz.prog w = .ok (.bool true) w := by kernel_rfl
theorem assFF (w : World) : (ReflectliteType.relation "AssignableTo" ReflectliteType.assignableTo #[.agg #[.pointer (some ⟨3, 73, none⟩)], .iface 155 (.agg #[.pointer (some ⟨3, 73, none⟩)])]).run Tryz.prog w = .ok (.bool true) w := by kernel_rfl
theorem assFE (w : World) : (ReflectliteType.relation "AssignableTo" ReflectliteType.assignableTo #[.agg #[.pointer (some ⟨3, 73, none⟩)], .iface 155 (.agg #[.pointer (some ⟨3, 72, none⟩)])]).run Tryz.prog w = .ok (.bool false) w := by kernel_rfl
theorem mKind (h : Value) (w : World) : (Go.method 459 155 (.agg #[h]) "Kind").run Tryz.prog w = .ok (266, h) w := by kernel_rfl
theorem mElem (h : Value) (w : World) : (Go.method 459 155 (.agg #[h]) "Elem").run Tryz.prog w = .ok (279, .agg #[h]) w := by kernel_rfl
theorem mImpl (h : Value) (w : World) : (Go.method 459 155 (.agg #[h]) "Implements").run Tryz.prog w = .ok (280, .agg #[h]) w := by kernel_rfl
theorem mAss (h : Value) (w : World) : (Go.method 459 155 (.agg #[h]) "AssignableTo").run Tryz.prog w = .ok (277, .agg #[h]) w := by kernel_rfl
theorem mComp (h : Value) (w : World) : (Go.method 459 155 (.agg #[h]) "Comparable").run Tryz.prog w = .ok (278, .agg #[h]) w := by kernel_rfl
theorem zJi (v : Value) (w : World) : (Go.method 459 73 v "Unwrap").run Tryz.prog w = .ok (271, v) w := by kernel_rfl
theorem zJZ (t : Addr) (w : World) : (ReflectliteValue.unpack (.iface 75 (.pointer (some t)))).run Tryz.prog w
    = .ok (.agg #[.pointer (some ⟨3, 75, none⟩), .pointer (some ⟨w.heap.size, 0, none⟩), .int .u64 150]) (w.alloc (.cells #[.pointer (some t)] 75)) := by kernel_rfl
theorem zNv (a : Addr) (w : World) : (ReflectliteValue.methodAny (ReflectliteValue.valueError "reflectlite.Value.Type" 0) (fun t _ _ _ => ReflectliteType.toType t) #[.agg #[.pointer (some ⟨3, 75, none⟩), .pointer (some a), .int .u64 150]]).run Tryz.prog w
    = .ok (.iface 155 (.agg #[.pointer (some ⟨3, 75, none⟩)])) w := by kernel_rfl
theorem zNY (w : World) : ((ReflectliteType.abiMethod fun t => (fun a : Nat => Value.int IntKind.u8 (a : Int)) <$> Rtype.kind t) #[.pointer (some ⟨3, 75, none⟩)]).run Tryz.prog w = .ok (.int .u8 22) w := by kernel_rfl
theorem kindE (w : World) : ((ReflectliteType.abiMethod fun t => (fun a : Nat => Value.int IntKind.u8 (a : Int)) <$> Rtype.kind t) #[.pointer (some ⟨3, 72, none⟩)]).run Tryz.prog w = .ok (.int .u8 2) w := by kernel_rfl
theorem zNL (w : World) : (ReflectliteType.method ReflectliteType.elem #[.agg #[.pointer (some ⟨3, 75, none⟩)]]).run Tryz.prog w = .ok (.iface 155 (.agg #[.pointer (some ⟨3, 72, none⟩)])) w := by kernel_rfl
theorem implE (w : World) : (ReflectliteType.relation "Implements" ReflectliteType.implements_ #[.agg #[.pointer (some ⟨3, 72, none⟩)], .iface 155 (.agg #[.pointer (some ⟨3, 26, none⟩)])]).run Tryz.prog w = .ok (.bool true) w := by kernel_rfl
theorem compE (w : World) : ((ReflectliteType.method fun t => do Rtype.noPackHeld "Comparable" t; (fun a => Value.bool a.comparable) <$> typeInfo t) #[.agg #[.pointer (some ⟨3, 72, none⟩)]]).run Tryz.prog w = .ok (.bool true) w := by kernel_rfl
theorem zIC (t : Addr) (w : World) : (ReflectliteValue.unpack (.iface 76 (.pointer (some t)))).run Tryz.prog w
    = .ok (.agg #[.pointer (some ⟨3, 76, none⟩), .pointer (some ⟨w.heap.size, 0, none⟩), .int .u64 150]) (w.alloc (.cells #[.pointer (some t)] 76)) := by kernel_rfl
theorem zNk (a : Addr) (w : World) : (ReflectliteValue.methodAny (ReflectliteValue.valueError "reflectlite.Value.Type" 0) (fun t _ _ _ => ReflectliteType.toType t) #[.agg #[.pointer (some ⟨3, 76, none⟩), .pointer (some a), .int .u64 150]]).run Tryz.prog w
    = .ok (.iface 155 (.agg #[.pointer (some ⟨3, 76, none⟩)])) w := by kernel_rfl
theorem zNF (w : World) : ((ReflectliteType.abiMethod fun t => (fun a : Nat => Value.int IntKind.u8 (a : Int)) <$> Rtype.kind t) #[.pointer (some ⟨3, 76, none⟩)]).run Tryz.prog w = .ok (.int .u8 22) w := by kernel_rfl
theorem kindF (w : World) : ((ReflectliteType.abiMethod fun t => (fun a : Nat => Value.int IntKind.u8 (a : Int)) <$> Rtype.kind t) #[.pointer (some ⟨3, 73, none⟩)]).run Tryz.prog w = .ok (.int .u8 22) w := by kernel_rfl
theorem zNU (w : World) : (ReflectliteType.method ReflectliteType.elem #[.agg #[.pointer (some ⟨3, 76, none⟩)]]).run Tryz.prog w = .ok (.iface 155 (.agg #[.pointer (some ⟨3, 73, none⟩)])) w := by kernel_rfl
theorem implF (w : World) : (ReflectliteType.relation "Implements" ReflectliteType.implements_ #[.agg #[.pointer (some ⟨3, 73, none⟩)], .iface 155 (.agg #[.pointer (some ⟨3, 26, none⟩)])]).run Tryz.prog w = .ok (.bool true) w := by kernel_rfl
theorem noIsE (v : Value) (xT : TypeId) (w : World) : (Instr.typeAssert (.iface 72 v) xT 326 true).run Tryz.prog w = .ok (.tuple #[.nilIface, .bool false]) w := run_typeAssert_lacksB Tryz.underlying326 (by kernel_rfl) (by kernel_rfl) v xT w
theorem noIsF (v : Value) (xT : TypeId) (w : World) : (Instr.typeAssert (.iface 73 v) xT 326 true).run Tryz.prog w = .ok (.tuple #[.nilIface, .bool false]) w := run_typeAssert_lacksB Tryz.underlying326 (by kernel_rfl) (by kernel_rfl) v xT w
theorem noAsE (v : Value) (xT : TypeId) (w : World) : (Instr.typeAssert (.iface 72 v) xT 160 true).run Tryz.prog w = .ok (.tuple #[.nilIface, .bool false]) w := run_typeAssert_lacksB Tryz.underlying160 (by kernel_rfl) (by kernel_rfl) v xT w
theorem noAsF (v : Value) (xT : TypeId) (w : World) : (Instr.typeAssert (.iface 73 v) xT 160 true).run Tryz.prog w = .ok (.tuple #[.nilIface, .bool false]) w := run_typeAssert_lacksB Tryz.underlying160 (by kernel_rfl) (by kernel_rfl) v xT w
theorem noUnE (v : Value) (xT : TypeId) (w : World) : (Instr.typeAssert (.iface 72 v) xT 163 true).run Tryz.prog w = .ok (.tuple #[.nilIface, .bool false]) w := run_typeAssert_lacksB Tryz.underlying163 (by kernel_rfl) (by kernel_rfl) v xT w
theorem zNu (v : Value) (xT : TypeId) (w : World) : (Instr.typeAssert (.iface 72 v) xT 165 true).run Tryz.prog w = .ok (.tuple #[.nilIface, .bool false]) w := run_typeAssert_lacksB Tryz.underlying165 (by kernel_rfl) (by kernel_rfl) v xT w
theorem zMc (v : Value) (xT : TypeId) (w : World) : (Instr.typeAssert (.iface 73 v) xT 163 true).run Tryz.prog w = .ok (.tuple #[.iface 73 v, .bool true]) w := run_typeAssert_hasB Tryz.underlying163 (by kernel_rfl) v xT w
theorem zIn (a : Addr) (w : World) : (ReflectliteValue.parts (.agg #[.pointer (some ⟨3, 75, none⟩), .pointer (some a), .int .u64 150])).run Tryz.prog w = .ok (some (75, a, 150)) w := by kernel_rfl
theorem zJF (a : Addr) (w : World) : (ReflectliteValue.parts (.agg #[.pointer (some ⟨3, 76, none⟩), .pointer (some a), .int .u64 150])).run Tryz.prog w = .ok (some (76, a, 150)) w := by kernel_rfl
theorem zMF (a : Addr) (w : World) : (ReflectliteValue.parts (.agg #[.pointer (some ⟨3, 72, none⟩), .pointer (some a), .int .u64 386])).run Tryz.prog w = .ok (some (72, a, 386)) w := by kernel_rfl
theorem zNH (a : Addr) (w : World) : (ReflectliteValue.parts (.agg #[.pointer (some ⟨3, 72, none⟩), .pointer (some a), .int .u64 130])).run Tryz.prog w = .ok (some (72, a, 130)) w := by kernel_rfl
theorem zM3 (a : Addr) (w : World) : (ReflectliteValue.parts (.agg #[.pointer (some ⟨3, 73, none⟩), .pointer (some a), .int .u64 406])).run Tryz.prog w = .ok (some (73, a, 406)) w := by kernel_rfl
theorem zNX (a : Addr) (w : World) : (ReflectliteValue.parts (.agg #[.pointer (some ⟨3, 73, none⟩), .pointer (some a), .int .u64 150])).run Tryz.prog w = .ok (some (73, a, 150)) w := by kernel_rfl
theorem zLw (n : Int) (w : World) : (ReflectliteValue.unpack (.iface 72 (.int .i64 n))).run Tryz.prog w
    = .ok (.agg #[.pointer (some ⟨3, 72, none⟩), .pointer (some ⟨w.heap.size, 0, none⟩), .int .u64 130]) (w.alloc (.cells #[.int .i64 n] 72)) := by kernel_rfl
theorem zKm (e : Addr) (w : World) : (ReflectliteValue.unpack (.iface 73 (.pointer (some e)))).run Tryz.prog w
    = .ok (.agg #[.pointer (some ⟨3, 73, none⟩), .pointer (some ⟨w.heap.size, 0, none⟩), .int .u64 150]) (w.alloc (.cells #[.pointer (some e)] 73)) := by kernel_rfl
theorem zK6 (w : World) : (Rtype.elem? 75).run Tryz.prog w = .ok (some 72) w := by kernel_rfl
theorem zKw (w : World) : (Rtype.elem? 76).run Tryz.prog w = .ok (some 73) w := by kernel_rfl
theorem mkE (p : Addr) (w : World) : (ReflectliteValue.mk 72 p ReflectliteValue.flagAddr).run Tryz.prog w = .ok (.agg #[.pointer (some ⟨3, 72, none⟩), .pointer (some p), .int .u64 386]) w := by kernel_rfl
theorem mkF (p : Addr) (w : World) : (ReflectliteValue.mk 73 p ReflectliteValue.flagAddr).run Tryz.prog w = .ok (.agg #[.pointer (some ⟨3, 73, none⟩), .pointer (some p), .int .u64 406]) w := by kernel_rfl
theorem zM0 (w : World) : (Rtype.directlyAssignable 72 72).run Tryz.prog w = .ok true w := by kernel_rfl
theorem zMn (w : World) : (Rtype.directlyAssignable 73 73).run Tryz.prog w = .ok true w := by kernel_rfl
theorem zM9 (a p : Addr) (W : World) (ha : W.cell? a = some (.pointer (some p))) :
    (ReflectliteValue.method (ReflectliteValue.valueError "reflectlite.Value.IsNil" 0) ReflectliteValue.isNil #[.agg #[.pointer (some ⟨3, 75, none⟩), .pointer (some a), .int .u64 150]]).run Tryz.prog W = .ok (.bool false) W := by
  delta ReflectliteValue.method ReflectliteValue.method.match_2
  dsimp only [Array.casesOn, Array.getLit, List.size_toArray, List.length]
  rw [dif_pos (by rfl)]
  simp only [List.getElem_toArray, List.getElem_cons_zero, Sem.run_bind, zIn, Result.andThen]
  simp [ReflectliteValue.isNil, loadVar, isAgg, underlying, Tryz.underlying75, ha, Result.andThen]
theorem zNc (a p : Addr) (W : World) (ha : W.cell? a = some (.pointer (some p))) :
    (ReflectliteValue.method (ReflectliteValue.valueError "reflectlite.Value.IsNil" 0) ReflectliteValue.isNil #[.agg #[.pointer (some ⟨3, 76, none⟩), .pointer (some a), .int .u64 150]]).run Tryz.prog W = .ok (.bool false) W := by
  delta ReflectliteValue.method ReflectliteValue.method.match_2
  dsimp only [Array.casesOn, Array.getLit, List.size_toArray, List.length]
  rw [dif_pos (by rfl)]
  simp only [List.getElem_toArray, List.getElem_cons_zero, Sem.run_bind, zJF, Result.andThen]
  simp [ReflectliteValue.isNil, loadVar, isAgg, underlying, Tryz.underlying76, ha, Result.andThen]
theorem zM1 (a p : Addr) (W : World) (ha : W.cell? a = some (.pointer (some p))) :
    (ReflectliteValue.method (ReflectliteValue.valueError "reflectlite.Value.Elem" 0) ReflectliteValue.elem #[.agg #[.pointer (some ⟨3, 75, none⟩), .pointer (some a), .int .u64 150]]).run Tryz.prog W
      = .ok (.agg #[.pointer (some ⟨3, 72, none⟩), .pointer (some p), .int .u64 386]) W := by
  delta ReflectliteValue.method ReflectliteValue.method.match_2
  dsimp only [Array.casesOn, Array.getLit, List.size_toArray, List.length]
  rw [dif_pos (by rfl)]
  simp only [List.getElem_toArray, List.getElem_cons_zero, Sem.run_bind, zIn, Result.andThen]
  simp [ReflectliteValue.elem, loadVar, isAgg, underlying, Tryz.underlying75, ha, Result.andThen, zK6, mkE]
theorem zMT (a p : Addr) (W : World) (ha : W.cell? a = some (.pointer (some p))) :
    (ReflectliteValue.method (ReflectliteValue.valueError "reflectlite.Value.Elem" 0) ReflectliteValue.elem #[.agg #[.pointer (some ⟨3, 76, none⟩), .pointer (some a), .int .u64 150]]).run Tryz.prog W
      = .ok (.agg #[.pointer (some ⟨3, 73, none⟩), .pointer (some p), .int .u64 406]) W := by
  delta ReflectliteValue.method ReflectliteValue.method.match_2
  dsimp only [Array.casesOn, Array.getLit, List.size_toArray, List.length]
  rw [dif_pos (by rfl)]
  simp only [List.getElem_toArray, List.getElem_cons_zero, Sem.run_bind, zJF, Result.andThen]
  simp [ReflectliteValue.elem, loadVar, isAgg, underlying, Tryz.underlying76, ha, Result.andThen, zKw, mkF]
theorem setE (ta b : Addr) (n : Int) (old : Value) (W : World) (hb : W.cell? b = some (.int .i64 n)) (ht : W.cell? ta = some old) (hf : W.frozen? ta = false) :
    (ReflectliteValue.set #[.agg #[.pointer (some ⟨3, 72, none⟩), .pointer (some ta), .int .u64 386], .agg #[.pointer (some ⟨3, 72, none⟩), .pointer (some b), .int .u64 130]]).run Tryz.prog W
      = .ok (.tuple #[]) (W.setCell ta (.int .i64 n)) := by
  delta ReflectliteValue.set ReflectliteValue.set.match_3
  dsimp only [Array.casesOn, Array.getLit, List.size_toArray, List.length]
  rw [dif_pos (by rfl)]
  simp only [List.getElem_toArray, List.getElem_cons_zero, List.getElem_cons_succ, Sem.run_bind, zMF, zNH, Result.andThen]
  simp [ReflectliteValue.flagAddr, loadVar, isAgg, underlying, Tryz.underlying72, hb, Result.andThen, zM0, storeVar, Value.cells, storeCells, Addr.add]
  rw [run_store Tryz.prog W ta _ _ (by rfl)]
  simp [ht, hf]
theorem setF (ta b e : Addr) (old : Value) (W : World) (hb : W.cell? b = some (.pointer (some e))) (ht : W.cell? ta = some old) (hf : W.frozen? ta = false) :
    (ReflectliteValue.set #[.agg #[.pointer (some ⟨3, 73, none⟩), .pointer (some ta), .int .u64 406], .agg #[.pointer (some ⟨3, 73, none⟩), .pointer (some b), .int .u64 150]]).run Tryz.prog W
      = .ok (.tuple #[]) (W.setCell ta (.pointer (some e))) := by
  delta ReflectliteValue.set ReflectliteValue.set.match_3
  dsimp only [Array.casesOn, Array.getLit, List.size_toArray, List.length]
  rw [dif_pos (by rfl)]
  simp only [List.getElem_toArray, List.getElem_cons_zero, List.getElem_cons_succ, Sem.run_bind, zM3, zNX, Result.andThen]
  simp [ReflectliteValue.flagAddr, loadVar, isAgg, underlying, Tryz.underlying73, hb, Result.andThen, zMn, storeVar, Value.cells, storeCells, Addr.add]
  rw [run_store Tryz.prog W ta _ _ (by rfl)]
  simp [ht, hf]
theorem zCt (args : Array Value) (w : World) : (callFunc 80 args).run Tryz.prog w = ((ReflectliteType.typeOf args).run Tryz.prog w).andThen fun v w' => .ok (.value v) w' :=
  @run_callFunc_extern Tryz.prog 80 _ ReflectliteType.typeOf Tryz.func80 (by kernel_rfl) (by kernel_rfl) (by kernel_rfl) (by kernel_rfl) args w
theorem zBk (args : Array Value) (w : World) : (callFunc 47 args).run Tryz.prog w = (((fun args => ReflectliteValue.unpack (args.getD 0 (.tuple #[]))) args).run Tryz.prog w).andThen fun v w' => .ok (.value v) w' :=
  @run_callFunc_extern Tryz.prog 47 _ (fun args => ReflectliteValue.unpack (args.getD 0 (.tuple #[]))) Tryz.func47 (by kernel_rfl) (by kernel_rfl) (by kernel_rfl) (by kernel_rfl) args w
theorem zGU (args : Array Value) (w : World) : (callFunc 48 args).run Tryz.prog w = (((ReflectliteValue.methodAny (ReflectliteValue.valueError "reflectlite.Value.Type" 0) (fun t _ _ _ => ReflectliteType.toType t)) args).run Tryz.prog w).andThen fun v w' => .ok (.value v) w' :=
  @run_callFunc_extern Tryz.prog 48 _ (ReflectliteValue.methodAny (ReflectliteValue.valueError "reflectlite.Value.Type" 0) (fun t _ _ _ => ReflectliteType.toType t)) Tryz.func48 (by kernel_rfl) (by kernel_rfl) (by kernel_rfl) (by kernel_rfl) args w
theorem zEQ (args : Array Value) (w : World) : (callFunc 49 args).run Tryz.prog w = (((ReflectliteValue.method (ReflectliteValue.valueError "reflectlite.Value.IsNil" 0) ReflectliteValue.isNil) args).run Tryz.prog w).andThen fun v w' => .ok (.value v) w' :=
  @run_callFunc_extern Tryz.prog 49 _ (ReflectliteValue.method (ReflectliteValue.valueError "reflectlite.Value.IsNil" 0) ReflectliteValue.isNil) Tryz.func49 (by kernel_rfl) (by kernel_rfl) (by kernel_rfl) (by kernel_rfl) args w
theorem zHa (args : Array Value) (w : World) : (callFunc 81 args).run Tryz.prog w = (((ReflectliteValue.method (ReflectliteValue.valueError "reflectlite.Value.Elem" 0) ReflectliteValue.elem) args).run Tryz.prog w).andThen fun v w' => .ok (.value v) w' :=
  @run_callFunc_extern Tryz.prog 81 _ (ReflectliteValue.method (ReflectliteValue.valueError "reflectlite.Value.Elem" 0) ReflectliteValue.elem) Tryz.func81 (by kernel_rfl) (by kernel_rfl) (by kernel_rfl) (by kernel_rfl) args w
theorem zJ1 (args : Array Value) (w : World) : (callFunc 82 args).run Tryz.prog w = ((ReflectliteValue.set args).run Tryz.prog w).andThen fun v w' => .ok (.value v) w' :=
  @run_callFunc_extern Tryz.prog 82 _ ReflectliteValue.set Tryz.func82 (by kernel_rfl) (by kernel_rfl) (by kernel_rfl) (by kernel_rfl) args w
theorem zGW (args : Array Value) (w : World) : (callFunc 266 args).run Tryz.prog w = (((ReflectliteType.abiMethod fun t => do pure (.int .u8 (← Rtype.kind t))) args).run Tryz.prog w).andThen fun v w' => .ok (.value v) w' :=
  @run_callFunc_extern Tryz.prog 266 _ (ReflectliteType.abiMethod fun t => do pure (.int .u8 (← Rtype.kind t))) Tryz.func266 (by kernel_rfl) (by kernel_rfl) (by kernel_rfl) (by kernel_rfl) args w
theorem zFb (args : Array Value) (w : World) : (callFunc 279 args).run Tryz.prog w = (((ReflectliteType.method ReflectliteType.elem) args).run Tryz.prog w).andThen fun v w' => .ok (.value v) w' :=
  @run_callFunc_extern Tryz.prog 279 _ (ReflectliteType.method ReflectliteType.elem) Tryz.func279 (by kernel_rfl) (by kernel_rfl) (by kernel_rfl) (by kernel_rfl) args w
theorem zGF (args : Array Value) (w : World) : (callFunc 280 args).run Tryz.prog w = (((ReflectliteType.relation "Implements" ReflectliteType.implements_) args).run Tryz.prog w).andThen fun v w' => .ok (.value v) w' :=
  @run_callFunc_extern Tryz.prog 280 _ (ReflectliteType.relation "Implements" ReflectliteType.implements_) Tryz.func280 (by kernel_rfl) (by kernel_rfl) (by kernel_rfl) (by kernel_rfl) args w
theorem zIQ (args : Array Value) (w : World) : (callFunc 277 args).run Tryz.prog w = (((ReflectliteType.relation "AssignableTo" ReflectliteType.assignableTo) args).run Tryz.prog w).andThen fun v w' => .ok (.value v) w' :=
  @run_callFunc_extern Tryz.prog 277 _ (ReflectliteType.relation "AssignableTo" ReflectliteType.assignableTo) Tryz.func277 (by kernel_rfl) (by kernel_rfl) (by kernel_rfl) (by kernel_rfl) args w
theorem zKj (args : Array Value) (w : World) : (callFunc 278 args).run Tryz.prog w = (((ReflectliteType.method fun t => do Rtype.noPackHeld "Comparable" t; pure (.bool (← typeInfo t).comparable)) args).run Tryz.prog w).andThen fun v w' => .ok (.value v) w' :=
  @run_callFunc_extern Tryz.prog 278 _ (ReflectliteType.method fun t => do Rtype.noPackHeld "Comparable" t; pure (.bool (← typeInfo t).comparable)) Tryz.func278 (by kernel_rfl) (by kernel_rfl) (by kernel_rfl) (by kernel_rfl) args w
end

section
open Go.RowKit Go.Extern.Stop Go.Stop Go.Extern
inductive Chain (w : World) (n : Int) : List ByteArray → Value → Prop
  | leaf : Chain w n [] (.iface 72 (.int .i64 n))
  | wrap (b : Nat) (c : ByteArray) (E : Value) (l : List ByteArray) : w.cell? ⟨b, 0, none⟩ = some (.string c) → w.cell? ⟨b, 1, none⟩ = some E → Chain w n l E → Chain w n (c :: l) (.iface 73 (.pointer (some ⟨b, 0, none⟩)))
theorem Chain.unique {w : World} {n : Int} {E : Value} {l l' : List ByteArray} (h : Chain w n l E) (h' : Chain w n l' E) : l = l' := by
  induction h generalizing l' with
  | leaf => cases h'; rfl
  | wrap b c E1 l1 hc he h1 ih =>
    cases h' with
    | wrap _ c2 E2 l2 hc2 he2 h2 => rw [hc] at hc2; cases hc2; rw [he] at he2; cases he2; rw [ih h2]
theorem Chain.mono {w w' : World} {n : Int} {E : Value} {l : List ByteArray} (h : Chain w n l E) (hb : Below w.heap.size w w') : Chain w' n l E := by
  induction h with
  | leaf => exact .leaf
  | wrap b c E1 l1 hc he h1 ih =>
    have hlt : b < w.heap.size := World.block_lt_of_cell? w ⟨b, 0, none⟩ hc
    exact .wrap b c E1 l1 ((hb.cell (p := ⟨b, 0, none⟩) hlt).trans hc) ((hb.cell (p := ⟨b, 1, none⟩) hlt).trans he) ih
theorem Chain.iface {w : World} {n : Int} {E : Value} {l : List ByteArray} (h : Chain w n l E) : ∃ u v, E = .iface u v := by
  cases h <;> exact ⟨_, _, rfl⟩
open Classical in
noncomputable def chainLen (w : World) (n : Int) (E : Value) : Nat := if h : ∃ l, Chain w n l E then h.choose.length else 0
theorem zBh {w : World} {n : Int} {E : Value} {l : List ByteArray} (h : Chain w n l E) : chainLen w n E = l.length := by
  unfold chainLen
  rw [dif_pos ⟨l, h⟩]
  rw [Chain.unique (Exists.choose_spec (⟨l, h⟩ : ∃ l, Chain w n l E)) h]
theorem zNq {W : World} (n : Int) (t a : Addr) (old : Value) (E : Value) (l : List ByteArray) (hch : Chain W n l E)
    (ht : W.cell? t = some old) (hf : W.frozen? t = false) (ha : W.cell? a = some (.pointer (some t))) :
    Calls Tryz.prog 50 #[E, .iface 75 (.pointer (some t)), .agg #[.pointer (some ⟨3, 75, none⟩), .pointer (some a), .int .u64 150], .iface 155 (.agg #[.pointer (some ⟨3, 72, none⟩)])] W
      fun e w' => e = .returned (.bool true) ∧ ∃ w1, Below W.heap.size W w1 ∧ w' = w1.setCell t (.int .i64 n) := by
  have c1 := zCt
  have c2 := zIQ
  have c3 := zHa
  have c4 := zBk
  have c5 := zJ1
  have f1 := zIH
  have f2 := zJA
  have f3 := assEE
  have f4 := assFE
  have f5 := mAss
  have f6 := zJi
  have f7 := noAsE
  have f8 := noAsF
  have f9 := zMc
  have f10 := zLw
  have htl : t.block < W.heap.size := World.block_lt_of_cell? W t ht
  have hal : a.block < W.heap.size := World.block_lt_of_cell? W a ha
  go_enter Tryz.func50, Tryz.ntmps50
  go_wp2
  go_loopw [0] (fun E' wl => wl = W.alloc (.cells #[.pointer (some ⟨3, 75, none⟩), .pointer (some a), .int .u64 150] 111) ∧ ∃ l', Chain W n l' E') (fun E' _ => chainLen W n E')
  case atStart => exact ⟨rfl, l, hch⟩
  case round =>
    obtain ⟨rfl, l', hc'⟩ := hrel
    cases hc' with
    | leaf =>
      have el := zM1 a t (W.alloc (.cells #[.pointer (some ⟨3, 75, none⟩), .pointer (some a), .int .u64 150] 111)) (by rw [World.cell?_alloc_lt _ _ a hal]; exact ha)
      have st := setE t ⟨W.heap.size + 1, 0, none⟩ n old ((W.alloc (.cells #[.pointer (some ⟨3, 75, none⟩), .pointer (some a), .int .u64 150] 111)).alloc (.cells #[.int .i64 n] 72))
        (by rw [World.cell?_alloc_at _ _ _ _ (by simp)]; rfl)
        (by rw [World.cell?_alloc_lt _ _ t (by simp; omega), World.cell?_alloc_lt _ _ t htl]; exact ht)
        (by rw [World.frozen?_alloc_old _ _ t (by simp; omega), World.frozen?_alloc_old _ _ t (Nat.ne_of_lt htl)]; exact hf)
      go_wp2
      go_ret
      exact ⟨rfl, _, ((Below.refl _ _).alloc (Nat.le_refl _) _).alloc (by simp) _, rfl⟩
    | wrap b c E1 l1 hb0 hb1 h1 =>
      obtain ⟨u1, v1, rfl⟩ := h1.iface
      have hlen := zBh h1
      have hlen0 := zBh (Chain.wrap b c _ l1 hb0 hb1 h1)
      have HC : Hid (Chain W n l1 (.iface u1 v1)) := h1
      have HL : Hid (chainLen W n (.iface u1 v1) < chainLen W n (.iface 73 (.pointer (some ⟨b, 0, none⟩)))) := by
        show _ < _
        rw [hlen, hlen0]; simp
      clear h1 hlen hlen0
      have hbl : b < W.heap.size := World.block_lt_of_cell? W ⟨b, 0, none⟩ hb0
      have hb1' : (W.alloc (.cells #[.pointer (some ⟨3, 75, none⟩), .pointer (some a), .int .u64 150] 111)).cell? ⟨b, 1, none⟩ = some (.iface u1 v1) := by
        rw [World.cell?_alloc_lt _ _ ⟨b, 1, none⟩ hbl]; exact hb1
      go_wp2
      go_roundw
      case rel => exact ⟨trivial, l1, HC.out⟩
      case measure => exact HL.out
theorem zLf {W : World} (t a p : Addr) (old : Value)
    (ht : W.cell? t = some old) (hf : W.frozen? t = false) (ha : W.cell? a = some (.pointer (some t))) :
    Calls Tryz.prog 50 #[.iface 73 (.pointer (some p)), .iface 76 (.pointer (some t)), .agg #[.pointer (some ⟨3, 76, none⟩), .pointer (some a), .int .u64 150], .iface 155 (.agg #[.pointer (some ⟨3, 73, none⟩)])] W
      fun e w' => e = .returned (.bool true) ∧ ∃ w1, Below W.heap.size W w1 ∧ w' = w1.setCell t (.pointer (some p)) := by
  have c1 := zCt
  have c2 := zIQ
  have c3 := zHa
  have c4 := zBk
  have c5 := zJ1
  have f2 := zJA
  have f4 := assFF
  have f5 := mAss
  have f10 := zKm
  have htl : t.block < W.heap.size := World.block_lt_of_cell? W t ht
  have hal : a.block < W.heap.size := World.block_lt_of_cell? W a ha
  have el := zMT a t (W.alloc (.cells #[.pointer (some ⟨3, 76, none⟩), .pointer (some a), .int .u64 150] 111)) (by rw [World.cell?_alloc_lt _ _ a hal]; exact ha)
  have st := setF t ⟨W.heap.size + 1, 0, none⟩ p old ((W.alloc (.cells #[.pointer (some ⟨3, 76, none⟩), .pointer (some a), .int .u64 150] 111)).alloc (.cells #[.pointer (some p)] 73))
    (by rw [World.cell?_alloc_at _ _ _ _ (by simp)]; rfl)
    (by rw [World.cell?_alloc_lt _ _ t (by simp; omega), World.cell?_alloc_lt _ _ t htl]; exact ht)
    (by rw [World.frozen?_alloc_old _ _ t (by simp; omega), World.frozen?_alloc_old _ _ t (Nat.ne_of_lt htl)]; exact hf)
  go_enter Tryz.func50, Tryz.ntmps50
  go_wp2
  refine wp_loop_rounds 1 ?_
  rw [rounds_succ]
  go_wp2
  go_ret
  exact ⟨rfl, _, ((Below.refl _ _).alloc (Nat.le_refl _) _).alloc (by simp) _, rfl⟩
end

section
open Go.RowKit Go.Extern.Stop Go.Stop Go.Extern
def Laid (w : World) : Prop := w.cell? ⟨0, 0, none⟩ = some (.iface 155 (.agg #[.pointer (some ⟨3, 26, none⟩)]))
theorem Laid.mono {w w' : World} (h : Laid w) (hb : Below w.heap.size w w') : Laid w' := by
  have hlt : 0 < w.heap.size := World.block_lt_of_cell? w ⟨0, 0, none⟩ h
  exact (hb.cell (p := ⟨0, 0, none⟩) hlt).trans h
theorem zNw {w : World} (n : Int) (t : Addr) (old : Value) (E : Value) (l : List ByteArray) (hch : Chain w n l E)
    (ht : w.cell? t = some old) (hf : w.frozen? t = false) (hg : Laid w) :
    Calls Tryz.prog 29 #[E, .iface 75 (.pointer (some t))] w
      fun e w' => e = .returned (.bool true) ∧ ∃ w1, Below w.heap.size w w1 ∧ w' = w1.setCell t (.int .i64 n) := by
  have c1 := zBk
  have c2 := zGU
  have c3 := zEQ
  have c4 := zGW
  have c5 := zFb
  have c6 := zGF
  have f1 := zJZ
  have f2 := zNv
  have f3 := mKind
  have f4 := mElem
  have f5 := mImpl
  have f6 := zNY
  have f7 := kindE
  have f8 := zNL
  have f9 := implE
  have hg0 : w.cell? ⟨0, 0, none⟩ = some (.iface 155 (.agg #[.pointer (some ⟨3, 26, none⟩)])) := hg
  have hlt : 0 < w.heap.size := World.block_lt_of_cell? w ⟨0, 0, none⟩ hg0
  have htl : t.block < w.heap.size := World.block_lt_of_cell? w t ht
  have n8 := zM9 ⟨w.heap.size, 0, none⟩ t ((w.alloc (.cells #[.pointer (some t)] 75)).alloc (.cells #[.pointer (some ⟨3, 75, none⟩), .pointer (some ⟨w.heap.size, 0, none⟩), .int .u64 150] 111)) (by simp)
  have hg2 : ((w.alloc (.cells #[.pointer (some t)] 75)).alloc (.cells #[.pointer (some ⟨3, 75, none⟩), .pointer (some ⟨w.heap.size, 0, none⟩), .int .u64 150] 111)).cell? ⟨0, 0, none⟩ = some (.iface 155 (.agg #[.pointer (some ⟨3, 26, none⟩)])) := by
    rw [World.cell?_alloc_lt _ _ ⟨0, 0, none⟩ (by simp <;> omega), World.cell?_alloc_lt _ _ ⟨0, 0, none⟩ hlt]; exact hg0
  have hB : Below w.heap.size w ((w.alloc (.cells #[.pointer (some t)] 75)).alloc (.cells #[.pointer (some ⟨3, 75, none⟩), .pointer (some ⟨w.heap.size, 0, none⟩), .int .u64 150] 111)) := ((Below.refl _ _).alloc (Nat.le_refl _) _).alloc (by simp) _
  have HT := lhd ((hB.cell (p := t) htl).trans ht)
  have HF := lhd ((hB.frozen (p := t) htl).trans hf)
  have HC := lhd (hch.mono hB)
  obtain ⟨u, v, rfl⟩ := hch.iface
  clear hch ht hf
  have HB := lhd hB
  clear hB
  go_enter Tryz.func29, Tryz.ntmps29
  go_wp2_with fail
  refine (zNq n t ⟨w.heap.size, 0, none⟩ old _ l HC.out HT.out HF.out (by simp)).mono ?_
  rintro e w' ⟨rfl, w1, hb1, rfl⟩
  go_wp2
  go_ret
  exact ⟨rfl, w1, HB.out.trans (hb1.mono (by simp; omega)), rfl⟩
theorem zLe {w : World} (t p : Addr) (old : Value)
    (ht : w.cell? t = some old) (hf : w.frozen? t = false) (hg : Laid w) :
    Calls Tryz.prog 29 #[.iface 73 (.pointer (some p)), .iface 76 (.pointer (some t))] w
      fun e w' => e = .returned (.bool true) ∧ ∃ w1, Below w.heap.size w w1 ∧ w' = w1.setCell t (.pointer (some p)) := by
  have c1 := zBk
  have c2 := zGU
  have c3 := zEQ
  have c4 := zGW
  have c5 := zFb
  have c6 := zGF
  have f1 := zIC
  have f2 := zNk
  have f3 := mKind
  have f4 := mElem
  have f5 := mImpl
  have f6 := zNF
  have f7 := kindF
  have f8 := zNU
  have f9 := implF
  have hg0 : w.cell? ⟨0, 0, none⟩ = some (.iface 155 (.agg #[.pointer (some ⟨3, 26, none⟩)])) := hg
  have hlt : 0 < w.heap.size := World.block_lt_of_cell? w ⟨0, 0, none⟩ hg0
  have htl : t.block < w.heap.size := World.block_lt_of_cell? w t ht
  have n8 := zNc ⟨w.heap.size, 0, none⟩ t ((w.alloc (.cells #[.pointer (some t)] 76)).alloc (.cells #[.pointer (some ⟨3, 76, none⟩), .pointer (some ⟨w.heap.size, 0, none⟩), .int .u64 150] 111)) (by simp)
  have hg2 : ((w.alloc (.cells #[.pointer (some t)] 76)).alloc (.cells #[.pointer (some ⟨3, 76, none⟩), .pointer (some ⟨w.heap.size, 0, none⟩), .int .u64 150] 111)).cell? ⟨0, 0, none⟩ = some (.iface 155 (.agg #[.pointer (some ⟨3, 26, none⟩)])) := by
    rw [World.cell?_alloc_lt _ _ ⟨0, 0, none⟩ (by simp <;> omega), World.cell?_alloc_lt _ _ ⟨0, 0, none⟩ hlt]; exact hg0
  have hB : Below w.heap.size w ((w.alloc (.cells #[.pointer (some t)] 76)).alloc (.cells #[.pointer (some ⟨3, 76, none⟩), .pointer (some ⟨w.heap.size, 0, none⟩), .int .u64 150] 111)) := ((Below.refl _ _).alloc (Nat.le_refl _) _).alloc (by simp) _
  have HT := lhd ((hB.cell (p := t) htl).trans ht)
  have HF := lhd ((hB.frozen (p := t) htl).trans hf)
  clear ht hf
  have HB := lhd hB
  clear hB
  go_enter Tryz.func29, Tryz.ntmps29
  go_wp2_with fail
  refine (zLf t ⟨w.heap.size, 0, none⟩ p old HT.out HF.out (by simp)).mono ?_
  rintro e w' ⟨rfl, w1, hb1, rfl⟩
  go_wp2
  go_ret
  exact ⟨rfl, w1, HB.out.trans (hb1.mono (by simp; omega)), rfl⟩
theorem eqlEE (a b : Int) (w : World) : (binOp .eql 26 (.iface 72 (.int .i64 a)) (.iface 72 (.int .i64 b))).run Tryz.prog w = .ok (.bool (a == b)) w := by
  have hc : (Tryz.prog.info? 72).map (·.comparable) = some true := by kernel_rfl
  obtain ⟨i, hi, hcmp⟩ := Option.map_eq_some_iff.1 hc
  have h : ∀ d : Nat, (Op.equalIn (d + 2) 26 (.iface 72 (.int .i64 a)) (.iface 72 (.int .i64 b))).run Tryz.prog w = .ok (a == b) w := fun d => by
    simp [Op.equalIn, run_underlying Tryz.underlying26, run_underlying Tryz.underlying72, typeInfo, hi, hcmp]
  simp only [binOp]
  simp [Op.equal, Op.maxDepth, h 9998]
theorem eqlFE (v u : Value) (w : World) : (binOp .eql 26 (.iface 73 v) (.iface 72 u)).run Tryz.prog w = .ok (.bool false) w :=
  run_eql_iface_types 73 72 v u Tryz.underlying26 (by decide) w
theorem zNO {W : World} (n m : Int) (E : Value) (l : List ByteArray) (hch : Chain W n l E) :
    Calls Tryz.prog 238 #[E, .iface 72 (.int .i64 m), .bool true] W fun e w' => e = .returned (.bool (n == m)) ∧ W = w' := by
  have f6 := zJi
  have f7 := noIsE
  have f8 := noIsF
  have f9 := zMc
  have f10 := noUnE
  have f11 := zNu
  have f13 := eqlFE
  go_enter Tryz.func238, Tryz.ntmps238
  go_wp2
  go_loopw [0] (fun E' wl => wl = W ∧ ∃ l', Chain W n l' E') (fun E' _ => chainLen W n E')
  case atStart => exact ⟨rfl, l, hch⟩
  case round =>
    obtain ⟨rfl, l', hc'⟩ := hrel
    cases hc' with
    | leaf =>
      by_cases hnm : n = m
      · subst hnm
        have f12 : ∀ w : World, (binOp .eql 26 (.iface 72 (.int .i64 n)) (.iface 72 (.int .i64 n))).run Tryz.prog w = .ok (.bool true) w := fun w => by rw [eqlEE]; simp
        go_wp2
        go_ret
        exact ⟨by simp, rfl⟩
      · have hb : (n == m) = false := by simpa using hnm
        have f12 : ∀ w : World, (binOp .eql 26 (.iface 72 (.int .i64 n)) (.iface 72 (.int .i64 m))).run Tryz.prog w = .ok (.bool false) w := fun w => by rw [eqlEE, hb]
        have HB := lhd hb
        clear hnm hb
        go_wp2
        go_ret
        exact ⟨by rw [HB.out]; rfl, rfl⟩
    | wrap b c E1 l1 hb0 hb1 h1 =>
      obtain ⟨u1, v1, rfl⟩ := h1.iface
      have hlen := zBh h1
      have hlen0 := zBh (Chain.wrap b c _ l1 hb0 hb1 h1)
      have HC := lhd h1
      have HL : Hid (chainLen wr n (.iface u1 v1) < chainLen wr n (.iface 73 (.pointer (some ⟨b, 0, none⟩)))) := by
        show _ < _
        rw [hlen, hlen0]; simp
      clear h1 hlen hlen0
      go_wp2
      go_roundw
      case rel => exact ⟨trivial, l1, HC.out⟩
      case measure => exact HL.out
theorem zNx {W : World} (n m : Int) (E : Value) (l : List ByteArray) (hch : Chain W n l E) :
    Calls Tryz.prog 216 #[E, .iface 72 (.int .i64 m)] W fun e w' => e = .returned (.bool (n == m)) ∧ W = w' := by
  have c1 := zCt
  have c2 := zKj
  have f1 := zIH
  have f2 := compE
  have f3 := mComp
  have HC := lhd hch
  obtain ⟨u, v, rfl⟩ := hch.iface
  clear hch
  go_enter Tryz.func216, Tryz.ntmps216
  go_wp2_with fail
  refine (zNO n m _ l HC.out).mono ?_
  rintro e w' ⟨rfl, rfl⟩
  go_wp2
  go_ret
  exact ⟨rfl, rfl⟩
theorem zL7 (m : Int) (w : World) : Calls Tryz.prog 216 #[.nilIface, .iface 72 (.int .i64 m)] w fun e w' => e = .returned (.bool false) ∧ w = w' := by
  have hn := run_eql_iface_nil_left (P := Tryz.prog) w 72 (.int .i64 m) Tryz.underlying26
  go_enter Tryz.func216, Tryz.ntmps216
  go_wp2
  go_ret
  exact ⟨rfl, rfl⟩
end

section
open Go.RowKit Go.Extern.Stop Go.Stop Go.Extern
theorem zLj (c : ByteArray) (w : World) : Calls Tryz.prog 39 #[.string c, .int .i64 0] w fun e w' => e = .returned .nilIface ∧ w = w' := by
  go_enter Tryz.func39, Tryz.ntmps39
  go_wp2
  go_ret
  exact ⟨rfl, rfl⟩
theorem zLb (c : ByteArray) (n : Int) (hn : n ≠ 0) (w : World) : Calls Tryz.prog 39 #[.string c, .int .i64 n] w fun e w' =>
    e = .returned (.iface 73 (.pointer (some ⟨w.heap.size, 0, none⟩))) ∧ w.alloc (.cells #[.string c, .iface 72 (.int .i64 n)] 78) = w' := by
  have hb : (n == 0) = false := by simpa using hn
  go_enter Tryz.func39, Tryz.ntmps39
  go_wp2
  go_ret
  exact ⟨rfl, rfl⟩
theorem zCe (c : ByteArray) (w : World) : Calls Tryz.prog 31 #[.string c, .nilIface] w fun e w' => e = .returned .nilIface ∧ w = w' := by
  go_enter Tryz.func31, Tryz.ntmps31
  go_wp2
  go_ret
  exact ⟨rfl, rfl⟩
theorem zIj (c : ByteArray) (u : TypeId) (v : Value) (w : World) : Calls Tryz.prog 31 #[.string c, .iface u v] w fun e w' =>
    e = .returned (.iface 73 (.pointer (some ⟨w.heap.size, 0, none⟩))) ∧ w.alloc (.cells #[.string c, .iface u v] 78) = w' := by
  go_enter Tryz.func31, Tryz.ntmps31
  go_wp2
  go_ret
  exact ⟨rfl, rfl⟩
theorem Chain.cons {w : World} {n : Int} {E : Value} {l : List ByteArray} (h : Chain w n l E) (c : ByteArray) :
    Chain (w.alloc (.cells #[.string c, E] 78)) n (c :: l) (.iface 73 (.pointer (some ⟨w.heap.size, 0, none⟩))) := by
  have hb : Below w.heap.size w (w.alloc (.cells #[.string c, E] 78)) := (Below.refl _ _).alloc (Nat.le_refl _) _
  exact .wrap _ c E l (by rw [World.cell?_alloc_at _ _ _ _ (by simp)]; rfl) (by rw [World.cell?_alloc_at _ _ _ _ (by simp)]; rfl) (h.mono hb)
theorem zJ9 (c : ByteArray) (n : Int) (hn : n ≠ 0) (w : World) : Calls Tryz.prog 39 #[.string c, .int .i64 n] w fun e w' =>
    ∃ E, e = .returned E ∧ Chain w' n [c] E ∧ Below w.heap.size w w' := by
  refine (zLb c n hn w).mono ?_
  rintro e w' ⟨rfl, rfl⟩
  exact ⟨_, rfl, Chain.leaf.cons c, (Below.refl _ _).alloc (Nat.le_refl _) _⟩
theorem zBC (c : ByteArray) (n : Int) (l : List ByteArray) (E : Value) (w : World) (h : Chain w n l E) : Calls Tryz.prog 31 #[.string c, E] w fun e w' =>
    ∃ E', e = .returned E' ∧ Chain w' n (c :: l) E' ∧ Below w.heap.size w w' := by
  obtain ⟨u, v, rfl⟩ := h.iface
  refine (zIj c u v w).mono ?_
  rintro e w' ⟨rfl, rfl⟩
  exact ⟨_, rfl, h.cons c, (Below.refl _ _).alloc (Nat.le_refl _) _⟩
end

section
open Go.RowKit Go.Extern.Stop Go.Stop Go.Extern
def ErrAns (k : Int) (c : ByteArray) (w : World) (E : Value) : Prop := (k = 0 ∧ E = .nilIface) ∨ (k ≠ 0 ∧ ∃ ls, Chain w k (c :: ls) E)
theorem ErrAns.none (c : ByteArray) (w : World) : ErrAns 0 c w .nilIface := .inl ⟨rfl, rfl⟩
theorem ErrAns.some {k : Int} {c : ByteArray} {w : World} {E : Value} (h : ErrAns k c w E) (hk : k ≠ 0) : ∃ u v, E = .iface u v := by
  rcases h with ⟨h, _⟩ | ⟨_, ls, h2⟩
  · exact absurd h hk
  · exact h2.iface
theorem zAH (c : ByteArray) (n : Int) (hn : n ≠ 0) (w : World) : Calls Tryz.prog 39 #[.string c, .int .i64 n] w fun e w' =>
    ∃ E, e = .returned E ∧ ErrAns n c w' E ∧ Below w.heap.size w w' := by
  refine (zJ9 c n hn w).mono ?_
  rintro e w' ⟨E, rfl, h, hb⟩
  exact ⟨E, rfl, .inr ⟨hn, [], h⟩, hb⟩
theorem Chain.kept2 {k : Int} {l : List ByteArray} {w w' : World} {E : Value} (h : Chain w k l E) (hs : ∀ b s, w.cell? ⟨b, 0, none⟩ = some (.string s) → w'.heap[b]? = w.heap[b]?) : Chain w' k l E := by
  induction h with
  | leaf => exact .leaf
  | wrap b c E1 l1 hc he _ ih => exact .wrap b c E1 l1 ((World.cell?_of_block (w := w) (a := ⟨b, 0, none⟩) (hs _ _ hc)).trans hc) ((World.cell?_of_block (w := w) (a := ⟨b, 1, none⟩) (hs _ _ hc)).trans he) ih
theorem zBt {k : Int} {c : ByteArray} {w w' : World} {E : Value} (h : ErrAns k c w E) (hs : ∀ b s, w.cell? ⟨b, 0, none⟩ = some (.string s) → w'.heap[b]? = w.heap[b]?) : ErrAns k c w' E := by
  rcases h with h | ⟨h1, ls, h2⟩
  · exact .inl h
  · exact .inr ⟨h1, ls, h2.kept2 hs⟩
end

section
open Go.RowKit Go.Extern.Stop Go.Stop Go.Extern
theorem zIG (m s : Nat) : ∀ (l c : Nat), c ∈ layL m s l → c < 2 ^ (m + l)
  | 0, c, h => ((zG0 m 0 s c).1 h).1
  | l + 1, c, h => by
    rw [← zFJ m l s (p := fun c => decide (c ∉ levL (m + 1) l s)) fun c => by simp] at h
    exact ((zG0 m (l + 1) s c).1 (List.mem_filter.1 h).1).1
theorem zEi {l : Nat} (h : l ≤ 7) : rateN l ≤ 64 := by
  cases l with
  | zero => decide
  | succ k =>
    have : (2 : Nat) ^ k ≤ 2 ^ 6 := zAl (by omega)
    simpa [rateN] using this
def nameStChunks : ByteArray := ⟨#[115, 116, 114, 105, 112, 101, 46, 67, 104, 117, 110, 107, 115]⟩
def nameStEsis : ByteArray := ⟨#[115, 116, 114, 105, 112, 101, 46, 69, 115, 105, 115]⟩
def StRateC : Prop := ∀ (w : World) (g l : Int), I64 g → I64 l → Calls Tryz.prog 55 #[.int .i64 g, .int .i64 l] w fun e w' => e = .returned (.int .i64 (if mayB g l then ((rateN l.toNat : Nat) : Int) else 0)) ∧ Below w.heap.size w w'
def StChunksC : Prop := ∀ (w : World) (g l : Int) (s : Nat), I64 g → I64 l → s < 4294967296 → Calls Tryz.prog 177 #[.int .i64 g, .int .i64 l, .int .u32 (s : Int)] w fun e w' => Below w.heap.size w w' ∧
  ((mayB g l = false ∧ ∃ E, e = .returned (.tuple #[nilS, E]) ∧ ErrAns 1 nameStChunks w' E) ∨
   (mayB g l = true ∧ ∃ v', e = .returned (.tuple #[v', .nilIface]) ∧ w'.ownsRow w.heap.size 3 1 v' (layL (g - 1 - l).toNat s l.toNat).length ((layL (g - 1 - l).toNat s l.toNat).map cnkV)))
def StEsisC : Prop := ∀ (w : World) (g n l : Int) (s : Nat), I64 g → I64 n → I64 l → s < 4294967296 → Calls Tryz.prog 147 #[.int .i64 g, .int .i64 n, .int .i64 l, .int .u32 (s : Int)] w fun e w' => Below w.heap.size w w' ∧
  ((stEsiN g n l ≠ 0 ∧ ∃ E, e = .returned (.tuple #[nilS, E]) ∧ ErrAns (stEsiN g n l) nameStEsis w' E) ∨
   (stEsiN g n l = 0 ∧ ∃ v', e = .returned (.tuple #[v', .nilIface]) ∧ w'.ownsRow w.heap.size 3 1 v' (stEsiL (g - 1 - l).toNat l.toNat s (n.toNat / 2 ^ (g - 1).toNat)).length ((stEsiL (g - 1 - l).toNat l.toNat s (n.toNat / 2 ^ (g - 1).toNat)).map cnkV)))
end
end Go.Proofs.YtkfimdpcadbcpaaGreatDoor
