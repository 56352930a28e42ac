/- A whole packet stored into, loaded from a block of the call's own, as the walk meets it. -/
import Derived.Test.YtmihpbdgilmdiaaWrBox
import Derived.Deep.WholeRow
import Derived.Laws.Tables
import Derived.BigQuiet
namespace Go.Proofs.Ytmihpbdgilmdiaa
open Go.RowKit Go.Extern.Stop Go.Stop Go.Extern

theorem pkt_info : (Try.prog.info? 26).map (·.size) = some 20 := by kernel_rfl

theorem setRow_mid (W : World) (c c' : Array Value) (t : TypeId) (Y : Obj) : ((W.alloc (.cells c t)).alloc Y).setRow W.heap.size c' = (W.alloc (.cells c' t)).alloc Y := by
  simp only [World.setRow, World.alloc]
  congr 1
  apply Array.ext_getElem?
  intro i
  rw [Array.getElem?_modify]
  by_cases h : W.heap.size = i
  · subst h
    simp [Array.getElem?_push]
  · have h' : ¬ i = W.heap.size := fun e => h e.symm
    simp only [Array.getElem?_push, Array.size_push, if_neg h, if_neg h']

section
variable {P : Program} {ops : Array Oper} {rest : List Oper} {o : Oper} {a : Act} {Q : Exit → Act → World → Prop}
/-- a whole struct into the block that was made last: one block ahead of it | the block ahead of the one that was made last -/
theorem wpList_storeRow1 {W : World} {X : Obj} {t : TypeId} {old : Array Value} (cells : Array Value) (hgd : o.guard = none) (ty : TypeId) (x y : Operand) (ho : o.op = .store ty x y) (hx : a.eval x = .pointer (some ⟨W.heap.size + 1, 0, none⟩)) (hy : a.eval y = .agg cells)
    (hi : (P.info? ty).map (·.size) = some cells.size) (hold : old.size = cells.size) (h1 : cells.all (·.oneCell') = true)
    (h : wpList P ops Q rest (a.put o.dst undef) ((W.alloc X).alloc (.cells cells t))) : wpList P ops Q (o :: rest) a ((W.alloc X).alloc (.cells old t)) := by
  have hh := heap_alloc_last (W.alloc X) (.cells old t)
  rw [World.size_alloc] at hh
  refine wpList_store_row hgd ty x y ho (W.heap.size + 1) cells hx hy t old hh hi hold h1 ?_
  have e := World.setRow_alloc_new (W.alloc X) old cells t
  rw [World.size_alloc] at e
  rw [e]
  exact h
theorem wpList_storeRowM {W : World} {Y : Obj} {t : TypeId} {old : Array Value} (cells : Array Value) (hgd : o.guard = none) (ty : TypeId) (x y : Operand) (ho : o.op = .store ty x y) (hx : a.eval x = .pointer (some ⟨W.heap.size, 0, none⟩)) (hy : a.eval y = .agg cells)
    (hi : (P.info? ty).map (·.size) = some cells.size) (hold : old.size = cells.size) (h1 : cells.all (·.oneCell') = true)
    (h : wpList P ops Q rest (a.put o.dst undef) ((W.alloc (.cells cells t)).alloc Y)) : wpList P ops Q (o :: rest) a ((W.alloc (.cells old t)).alloc Y) := by
  have hh : ((W.alloc (.cells old t)).alloc Y).heap[W.heap.size]? = some (.cells old t (0, 0)) :=
    (((Below.refl (W.alloc (.cells old t)).heap.size (W.alloc (.cells old t))).alloc (Nat.le_refl _) Y).block W.heap.size (by rw [World.size_alloc]; omega)).trans (heap_alloc_last W _)
  refine wpList_store_row hgd ty x y ho W.heap.size cells hx hy t old hh hi hold h1 ?_
  rw [setRow_mid W old cells t Y]
  exact h
/-- a whole struct out of the block that was made last, one block ahead of it -/
theorem wpList_loadRow1 {W : World} {X : Obj} {t : TypeId} {cells : Array Value} (hgd : o.guard = none) (ty : TypeId) (x : Operand) (ho : o.op = .load ty x) (hx : a.eval x = .pointer (some ⟨W.heap.size + 1, 0, none⟩)) (d : TypeDesc)
    (hu : P.underlying ty = some d) (hd : (match d with | .struct _ | .array _ _ => true | _ => false) = true) (hi : (P.info? ty).map (·.size) = some cells.size)
    (h : wpList P ops Q rest (a.put o.dst (.agg cells)) ((W.alloc X).alloc (.cells cells t))) : wpList P ops Q (o :: rest) a ((W.alloc X).alloc (.cells cells t)) := by
  have hh := heap_alloc_last (W.alloc X) (.cells cells t)
  rw [World.size_alloc] at hh
  exact wpList_load_row hgd ty x ho (W.heap.size + 1) hx t cells (0, 0) d hh hu hd hi h
end
section
variable {P : Program} {ops : Array Oper} {rest : List Oper} {o : Oper} {a : Act} {w : World} {Q : Exit → Act → World → Prop}
/-- a whole struct loaded by an operation whose guard is decided: it is wanted -/
theorem wpList_loadRowW (hw : Region.wanted o (yielded ops a.tmps) = true) (ty : TypeId) (x : Operand) (ho : o.op = .load ty x)
    (g : Nat) (hx : a.eval x = .pointer (some ⟨g, 0, none⟩)) (t : TypeId) (cs : Array Value) (fr : Nat × Nat) (d : TypeDesc) (hg : w.heap[g]? = some (.cells cs t fr))
    (hu : P.underlying ty = some d) (hd : (match d with | .struct _ | .array _ _ => true | _ => false) = true) (hi : (P.info? ty).map (·.size) = some cs.size)
    (h : wpList P ops Q rest (a.put o.dst (.agg cs)) w) : wpList P ops Q (o :: rest) a w :=
  wpList_step fun K hK => by rw [if_pos hw]; exact wp_load_row ty x ho g hx t cs fr d hg hu hd hi (hK _ _ h)
end
/-- a whole struct loaded in a region that draws its order and only reads -/
theorem quietAt_loadRow {P : Program} {o : Oper} {a : Act} {C : World → Prop} {V : World} (ty : TypeId) (x : Operand) (ho : o.op = .load ty x) (g : Nat) (hx : a.eval x = .pointer (some ⟨g, 0, none⟩)) (t : TypeId) (cs : Array Value) (fr : Nat × Nat) (d : TypeDesc)
    (hg : V.heap[g]? = some (.cells cs t fr)) (hu : P.underlying ty = some d) (hd : (match d with | .struct _ | .array _ _ => true | _ => false) = true) (hi : (P.info? ty).map (·.size) = some cs.size) : o.quietAt P a C V (.agg cs) := by
  unfold Oper.quietAt execOp
  simp only [ho, hx, Instr.loadAt, Instr.sureAddr, Sem.run_bind, Sem.run_pure, Result.andThen_ok, run_loadVar_row V g t ty cs fr d hg hu hd hi]
  exact ⟨rfl, rfl⟩
/-- a struct built of parts, its cells given -/
theorem wpList_built {P : Program} {ops : Array Oper} {rest : List Oper} {o : Oper} {a : Act} {w : World} {Q : Exit → Act → World → Prop} (hg : o.guard = none) (t : TypeId) (parts : Array (Nat × Operand)) (ho : o.op = .build t parts) (cells : Array Value)
    (hb : P.built t (parts.map fun (i, x) => (i, a.eval x)).toList = some cells) (h : wpList P ops Q rest (a.put o.dst (.agg cells)) w) : wpList P ops Q (o :: rest) a w :=
  wpList_build hg t parts ho (by rw [hb]; rfl) (by rw [hb]; exact h)
end Go.Proofs.Ytmihpbdgilmdiaa
