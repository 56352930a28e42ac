/- A packet as a struct, in a block of its own. -/
import Derived.Test.YtmihpbdgilmdiaaWrMath
import Derived.Test.YtmihpbdgilmdiaaOwn
namespace Go.Proofs.Ytmihpbdgilmdiaa
open Go.RowKit Go.Extern.Stop Go.Stop Go.Extern

/-- A packet's fields; D: its data. -/
def pktC (p : Pkt) (D : Value) : Array Value :=
  #[.int .i64 p.kind, .int .i64 p.session, .int .i64 p.layer, .int .i64 p.tick, .bool p.burst, .int .i64 p.sync, .int .i64 p.many, .int .i64 p.place, .int .i64 p.block, .int .i64 p.esi, D,
    .int .i64 p.size, .int .i64 p.symbol, .int .i64 p.blocks, .int .i64 p.long, .int .i64 p.short, .int .i64 p.layers, .int .i64 p.esis, .int .i64 p.base, .int .i64 p.length]
/-- A packet as a struct. -/
def pktV (p : Pkt) (D : Value) : Value := .agg (pktC p D)
/-- A value that reads as a packet. -/
def PktAt (w : World) (v : Value) (p : Pkt) : Prop := ∃ D, v = pktV p D ∧ ListAt byteV w D p.data
theorem PktAt.mono {w w' : World} {v : Value} {p : Pkt} (h : PktAt w v p) (hb : Below w.heap.size w w') : PktAt w' v p := by
  obtain ⟨D, rfl, h⟩ := h
  exact ⟨D, rfl, h.mono hb⟩

/-- Its numbers are ints. -/
structure FitsP (p : Pkt) : Prop where
  kind : I64 p.kind
  session : I64 p.session
  layer : I64 p.layer
  tick : I64 p.tick
  sync : I64 p.sync
  many : I64 p.many
  place : I64 p.place
  block : I64 p.block
  esi : I64 p.esi
  size : I64 p.size
  symbol : I64 p.symbol
  blocks : I64 p.blocks
  long : I64 p.long
  short : I64 p.short
  layers : I64 p.layers
  esis : I64 p.esis
  base : I64 p.base
  length : I64 p.length
  octs : Octets p.data

/-- A packet in a block of its own. -/
def PktBox (W : World) (g : Nat) (p : Pkt) (D : Value) : Prop := W.heap[g]? = some (.cells (pktC p D) 26 (0, 0))
theorem PktBox.lt {W : World} {g : Nat} {p : Pkt} {D : Value} (h : PktBox W g p D) : g < W.heap.size := (Array.getElem?_eq_some_iff.1 h).1
theorem PktBox.mono {W W' : World} {g : Nat} {p : Pkt} {D : Value} (h : PktBox W g p D) (hb : Below W.heap.size W W') : PktBox W' g p D := (hb.block g h.lt).trans h
/-- The cells of a packet's block. -/
structure PktCells (W : World) (g : Nat) (p : Pkt) (D : Value) : Prop where
  c0 : W.cell? ⟨g, 0, none⟩ = some (.int .i64 p.kind)
  c1 : W.cell? ⟨g, 1, none⟩ = some (.int .i64 p.session)
  c2 : W.cell? ⟨g, 2, none⟩ = some (.int .i64 p.layer)
  c3 : W.cell? ⟨g, 3, none⟩ = some (.int .i64 p.tick)
  c4 : W.cell? ⟨g, 4, none⟩ = some (.bool p.burst)
  c5 : W.cell? ⟨g, 5, none⟩ = some (.int .i64 p.sync)
  c6 : W.cell? ⟨g, 6, none⟩ = some (.int .i64 p.many)
  c7 : W.cell? ⟨g, 7, none⟩ = some (.int .i64 p.place)
  c8 : W.cell? ⟨g, 8, none⟩ = some (.int .i64 p.block)
  c9 : W.cell? ⟨g, 9, none⟩ = some (.int .i64 p.esi)
  c10 : W.cell? ⟨g, 10, none⟩ = some D
  c11 : W.cell? ⟨g, 11, none⟩ = some (.int .i64 p.size)
  c12 : W.cell? ⟨g, 12, none⟩ = some (.int .i64 p.symbol)
  c13 : W.cell? ⟨g, 13, none⟩ = some (.int .i64 p.blocks)
  c14 : W.cell? ⟨g, 14, none⟩ = some (.int .i64 p.long)
  c15 : W.cell? ⟨g, 15, none⟩ = some (.int .i64 p.short)
  c16 : W.cell? ⟨g, 16, none⟩ = some (.int .i64 p.layers)
  c17 : W.cell? ⟨g, 17, none⟩ = some (.int .i64 p.esis)
  c18 : W.cell? ⟨g, 18, none⟩ = some (.int .i64 p.base)
  c19 : W.cell? ⟨g, 19, none⟩ = some (.int .i64 p.length)
theorem PktBox.cells {W : World} {g : Nat} {p : Pkt} {D : Value} (h : PktBox W g p D) : PktCells W g p D :=
  ⟨cell_of_heap h rfl, cell_of_heap h rfl, cell_of_heap h rfl, cell_of_heap h rfl, cell_of_heap h rfl, cell_of_heap h rfl, cell_of_heap h rfl, cell_of_heap h rfl, cell_of_heap h rfl, cell_of_heap h rfl, cell_of_heap h rfl, cell_of_heap h rfl, cell_of_heap h rfl, cell_of_heap h rfl, cell_of_heap h rfl, cell_of_heap h rfl, cell_of_heap h rfl, cell_of_heap h rfl, cell_of_heap h rfl, cell_of_heap h rfl⟩
theorem pkt_laid (w : World) (p : Pkt) (D : Value) : ∃ W, W = w.alloc (.cells (pktC p D) 26) ∧ Below w.heap.size w W ∧ PktBox W w.heap.size p D :=
  ⟨_, rfl, (Below.refl _ _).alloc (Nat.le_refl _) _, heap_alloc_new w _⟩
end Go.Proofs.Ytmihpbdgilmdiaa
