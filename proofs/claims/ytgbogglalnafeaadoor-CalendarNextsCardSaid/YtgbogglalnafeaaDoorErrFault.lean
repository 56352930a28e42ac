/- Package fault by contracts: New, Wrap, Num, first, Call, Is at a chain of faults round a number, and at no error. -/
import Derived.Test.YtgbogglalnafeaaDoorErrIs
import Derived.Defers
import Derived.Recover
import Derived.Laws.Pointers
namespace Go.Proofs.YtgbogglalnafeaaDoor
open Go.RowKit Go.Extern.Stop Go.Stop Go.Extern

/-! ### New, Wrap -/
theorem New_zero (c : ByteArray) (w : World) : Calls Tryd.prog 24 #[.string c, .int .i64 0] w fun e w' => e = .returned .nilIface ∧ w = w' := by
  go_enter Tryd.func24, Tryd.ntmps24
  go_wp2
  go_ret
  exact ⟨rfl, rfl⟩

theorem New_some (c : ByteArray) (n : Int) (hn : n ≠ 0) (w : World) : Calls Tryd.prog 24 #[.string c, .int .i64 n] w fun e w' =>
    e = .returned (.iface 42 (.pointer (some ⟨w.heap.size, 0, none⟩))) ∧ w.alloc (.cells #[.string c, .iface 41 (.int .i64 n)] 47) = w' := by
  have hb : (n == 0) = false := by simpa using hn
  go_enter Tryd.func24, Tryd.ntmps24
  go_wp2
  go_ret
  exact ⟨rfl, rfl⟩

/-- A new fault round a chain is a chain. -/
theorem Chain.cons {w : World} {n : Int} {E : Value} {l : List ByteArray} (h : Chain w n l E) (c : ByteArray) :
    Chain (w.alloc (.cells #[.string c, E] 47)) n (c :: l) (.iface 42 (.pointer (some ⟨w.heap.size, 0, none⟩))) := by
  have hb : Below w.heap.size w (w.alloc (.cells #[.string c, E] 47)) := (Below.refl _ _).alloc (Nat.le_refl _) _
  exact .wrap _ c E l (by rw [World.cell?_alloc_at _ _ _ _ (by simp)]; rfl) (by rw [World.cell?_alloc_at _ _ _ _ (by simp)]; rfl) (h.mono hb)

/-- New of a number: a chain of one. -/
theorem New_chain (c : ByteArray) (n : Int) (hn : n ≠ 0) (w : World) : Calls Tryd.prog 24 #[.string c, .int .i64 n] w fun e w' =>
    ∃ E, e = .returned E ∧ Chain w' n [c] E ∧ Below w.heap.size w w' := by
  refine (New_some c n hn w).mono ?_
  rintro e w' ⟨rfl, rfl⟩
  exact ⟨_, rfl, Chain.leaf.cons c, (Below.refl _ _).alloc (Nat.le_refl _) _⟩

/-! ### the deferred closures: nothing panics, nothing is recovered -/
/-! ### Num -/
/-! ### first -/
/-! ### Call -/
/-! ### Is -/
end Go.Proofs.YtgbogglalnafeaaDoor
