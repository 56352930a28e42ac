/- A list that has just been made; three results, the first one a struct. -/
import Derived.Test.YtkhdjjcflbdegaaGreatDoorG14
namespace Go.Proofs.YtkhdjjcflbdegaaGreatDoor
open Go.RowKit Go.Extern.Stop Go.Stop Go.Extern

theorem made_own {base size : Nat} {w : World} (e : TypeId) (hb : base ≤ w.heap.size) (_ : 0 < size) : (w.alloc (.cells #[] e)).ownsRow base e size (.slice (some ⟨w.heap.size, 0, none⟩) 0 0) 0 [] :=
  World.ownsRow_made (base := base) (e := e) (size := size) w #[] 0 hb (Nat.zero_le _) (by simp)
theorem made_below {base : Nat} {w0 w w' : World} {e : TypeId} (hB : Below base w0 w) (hb : base ≤ w.heap.size) (hg : (w.alloc (.cells #[] e)).grownBy w' (Value.slice (some ⟨w.heap.size, 0, none⟩) 0 0).ownBlock) : Below base w0 w' :=
  (hB.alloc hb _).grown hg (by simp; omega) fun k hk => ((made_own (size := 1) e hb (by decide)).lt k hk).1

/-- Three results, the first one a struct that lies in a block of its own. -/
theorem results_row3 {P : Program} {fn : Func} {p t u : Tmp} {ty : TypeId} (h : fn.results = #[.cell p ty, .tmp t, .tmp u]) (tmps : Array Value) (w : World) (g : Nat) (tt : TypeId) (cs : Array Value) (fr : Nat × Nat) (d : TypeDesc)
    (hp : tmps.getD p undef = .pointer (some ⟨g, 0, none⟩)) (hg : w.heap[g]? = some (.cells cs tt fr))
    (hu : P.underlying ty = some d) (hd : (match d with | .struct _ | .array _ _ => true | _ => false) = true) (hi : (P.info? ty).map (·.size) = some cs.size) :
    (results fn tmps).run P w = .ok (.tuple #[.agg cs, tmps.getD t undef, tmps.getD u undef]) w := by
  have hp' : tmps[p]?.getD undef = .pointer (some ⟨g, 0, none⟩) := by simpa using hp
  simp [results, h, hp', asAddr, run_loadVar_row w g tt ty cs fr d hg hu hd hi]
end Go.Proofs.YtkhdjjcflbdegaaGreatDoor
