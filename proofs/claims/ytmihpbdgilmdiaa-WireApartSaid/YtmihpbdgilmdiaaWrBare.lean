/- The document's bare: a packet with what its kind has alone (layer 16). -/
import Derived.Test.YtmihpbdgilmdiaaWrStore
import Derived.Deep.Cut
namespace Go.Proofs.Ytmihpbdgilmdiaa
open Go.RowKit Go.Extern.Stop Go.Stop Go.Extern

theorem wr_row1 {P : Program} {fn : Func} {p : Tmp} {ty : TypeId} (h : fn.results = #[.cell p ty]) (tmps : Array Value) (w : World) (g : Nat) (tt : TypeId) (cs : Array Value) (fr : Nat × Nat) (d : TypeDesc)
    (hp : tmps.getD p undef = .pointer (some ⟨g, 0, none⟩)) (hg : w.heap[g]? = some (.cells cs tt fr))
    (hu : P.underlying ty = some d) (hd : (match d with | .struct _ | .array _ _ => true | _ => false) = true) (hi : (P.info? ty).map (·.size) = some cs.size) :
    (results fn tmps).run P w = .ok (.agg cs) w := by
  have hp' : tmps[p]?.getD undef = .pointer (some ⟨g, 0, none⟩) := by simpa using hp
  simp [results, h, hp', asAddr, run_loadVar_row w g tt ty cs fr d hg hu hd hi]

theorem heap_mid (W : World) (X Y : Obj) : ((W.alloc X).alloc Y).heap[W.heap.size]? = some X :=
  (((Below.refl (W.alloc X).heap.size (W.alloc X)).alloc (Nat.le_refl _) Y).block W.heap.size (by rw [World.size_alloc]; omega)).trans (heap_alloc_new W X)

def bareP (p : Pkt) : Pkt := if p.kind = 1 then ⟨p.kind, p.session, p.layer, p.tick, p.burst, p.sync, p.many, p.place, p.block, p.esi, p.data, 0, 0, 0, 0, 0, 0, 0, 0, 0⟩ else ⟨p.kind, p.session, p.layer, p.tick, false, 0, 0, 0, 0, 0, [], p.size, p.symbol, p.blocks, p.long, p.short, p.layers, p.esis, p.base, p.length⟩

def bareD (p : Pkt) (D : Value) : Value := if p.kind = 1 then D else nilS
theorem bare_at {w : World} {p : Pkt} {D : Value} (hD : ListAt byteV w D p.data) : ListAt byteV w (bareD p D) (bareP p).data := by
  unfold bareD bareP
  split
  · exact hD
  · exact ListAt.nil _ _

end Go.Proofs.Ytmihpbdgilmdiaa
