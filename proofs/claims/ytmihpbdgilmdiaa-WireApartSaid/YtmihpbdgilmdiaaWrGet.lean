/- The document's Get (layer 16). -/
import Derived.Test.YtmihpbdgilmdiaaWrGuess
import Derived.Test.YtmihpbdgilmdiaaWrGuessA
import Derived.Test.YtmihpbdgilmdiaaWrChk
import Derived.Deep.RegionLaw
namespace Go.Proofs.Ytmihpbdgilmdiaa
open Go.RowKit Go.Extern.Stop Go.Stop Go.Extern

theorem numI {c : List Nat} (ho : Octets c) (a k : Nat) (hk : k ≤ 5) : I64 ((numA c a k : Nat) : Int) ∧ I64 (((numA c a k : Nat) : Int) + 1) := by
  have h := Nat.lt_of_lt_of_le (numA_lt c ho a k) (show 256 ^ k ≤ 256 ^ 5 from Nat.pow_le_pow_right (by decide) hk)
  have h2 : (256 : Nat) ^ 5 = 1099511627776 := by decide
  rw [h2] at h
  exact ⟨⟨by omega, by omega⟩, ⟨by omega, by omega⟩⟩
theorem fits_gs {c : List Nat} (ho : Octets c) (kd : Int) (hk : I64 kd) : FitsP (gsP c kd) := by
  have z : I64 0 := ⟨by decide, by decide⟩
  have hr : I64 (((numA c 9 1 % 128 : Nat) : Int) - 1) := ⟨by omega, by omega⟩
  unfold gsP
  split
  · exact ⟨hk, (numI ho 1 2 (by decide)).1, (numI ho 3 1 (by decide)).1, (numI ho 4 5 (by decide)).1, hr, (numI ho 10 2 (by decide)).1, (numI ho 12 2 (by decide)).1, (numI ho 14 1 (by decide)).1, (numI ho 15 2 (by decide)).1, z, z, z, z, z, z, z, z, z, fun x hx => ho x (List.mem_of_mem_drop hx)⟩
  · exact ⟨hk, (numI ho 1 2 (by decide)).1, (numI ho 3 1 (by decide)).1, (numI ho 4 5 (by decide)).1, z, z, z, z, z, (numI ho 9 4 (by decide)).1, (numI ho 13 1 (by decide)).1, (numI ho 14 1 (by decide)).1, (numI ho 15 1 (by decide)).1, (numI ho 16 1 (by decide)).1, (numI ho 17 1 (by decide)).1, (numI ho 18 2 (by decide)).2, (numI ho 20 2 (by decide)).1, (numI ho 22 2 (by decide)).1, fun x hx => by cases hx⟩

/-- What bytes are: why none's, or whose. -/
def GotP (l : List Nat) (k : Int) (p : Pkt) : Prop :=
  (l.length < 4 ∧ k = 2 ∧ p = pkt0) ∨ (4 ≤ l.length ∧ ¬ WholeS l ∧ k = 6 ∧ p = pkt0) ∨
  (4 ≤ l.length ∧ WholeS l ∧ (∀ q, ¬ IsP (l.take (l.length - 4)) q) ∧ k = 2 ∧ p = pkt0) ∨ (4 ≤ l.length ∧ WholeS l ∧ k = 0 ∧ IsP (l.take (l.length - 4)) p)
theorem GotP.same {l : List Nat} {k k' : Int} {p p' : Pkt} (h : GotP l k p) (h' : GotP l k' p') : k = k' ∧ p = p' := by
  rcases h with ⟨a, b, c⟩ | ⟨a, b, c, d⟩ | ⟨a, b, c, d, e⟩ | ⟨a, b, c, d⟩ <;> rcases h' with ⟨a', b', c'⟩ | ⟨a', b', c', d'⟩ | ⟨a', b', c', d', e'⟩ | ⟨a', b', c', d'⟩
  all_goals first
    | omega
    | exact absurd b' b
    | exact absurd b b'
    | exact absurd d' (c p')
    | exact absurd d (c' p)
    | exact ⟨by rw [b, b'], by rw [c, c']⟩
    | exact ⟨by rw [c, c'], by rw [d, d']⟩
    | exact ⟨by rw [d, d'], by rw [e, e']⟩
    | exact ⟨by rw [c, c'], d.same d'⟩

section
variable {P : Program} {ops : Array Oper} {rest : List Oper} {o : Oper} {a : Act} {w : World} {Q : Exit → Act → World → Prop}
theorem wpList_storeRow0 {W : World} {t : TypeId} {old : Array Value} (cells : Array Value) (hgd : o.guard = none) (ty : TypeId) (x y : Operand) (ho : o.op = .store ty x y) (hx : a.eval x = .pointer (some ⟨W.heap.size, 0, none⟩)) (hy : a.eval y = .agg cells)
    (hi : (P.info? ty).map (·.size) = some cells.size) (hold : old.size = cells.size) (h1 : cells.all (·.oneCell') = true)
    (h : wpList P ops Q rest (a.put o.dst undef) (W.alloc (.cells cells t))) : wpList P ops Q (o :: rest) a (W.alloc (.cells old t)) := by
  refine wpList_store_row hgd ty x y ho W.heap.size cells hx hy t old (heap_alloc_last W _) hi hold h1 ?_
  rw [World.setRow_alloc_new W old cells t]
  exact h
theorem step_loadRow {K : Act → World → Prop} {E : Prop} (hw : Region.wanted o (yielded ops a.tmps) = true) (ty : TypeId) (x : Operand) (ho : o.op = .load ty x)
    (g : Nat) (hx : a.eval x = .pointer (some ⟨g, 0, none⟩)) (t : TypeId) (cs : Array Value) (fr : Nat × Nat) (d : TypeDesc) (hg : w.heap[g]? = some (.cells cs t fr))
    (hu : P.underlying ty = some d) (hd : (match d with | .struct _ | .array _ _ => true | _ => false) = true) (hi : (P.info? ty).map (·.size) = some cs.size)
    (h : K (a.put o.dst (.agg cs)) w) : if Region.wanted o (yielded ops a.tmps) = true then Oper.wp P o a w K Q else E := by
  rw [if_pos hw]; exact wp_load_row ty x ho g hx t cs fr d hg hu hd hi h
end

theorem pkt0_noByte (k : Nat) (x : Int) : (pktC pkt0 nilS)[k]? ≠ some (.int .u8 x) := fun h => by
  have hm := Array.mem_of_getElem? h
  simp [pktC, pkt0] at hm
/-- what is written over an empty packet leaves bytes as they are -/
theorem listAt_setRow {w : World} {g : Nat} {t : TypeId} {fr : Nat × Nat} {v : Value} {l : List Nat} (hg : w.heap[g]? = some (.cells (pktC pkt0 nilS) t fr)) (h : ListAt byteV w v l) (cs : Array Value) : ListAt byteV (w.setRow g cs) v l := by
  obtain ⟨a, cap, rfl, h1, h2, h3⟩ := h
  refine ⟨a, cap, rfl, h1, h2, fun hp => ?_⟩
  obtain ⟨b, off, rfl, hc⟩ := h3 hp
  refine ⟨b, off, rfl, fun j hj => ?_⟩
  have hne : b ≠ g := by
    rintro rfl
    have e := hc j hj
    have e2 : w.cell? ⟨b, off + j, none⟩ = (pktC pkt0 nilS)[off + j]? := by simp [World.cell?, hg]
    rw [e2] at e
    exact pkt0_noByte _ _ e
  rw [← hc j hj]
  exact World.cell?_of_block (w := w) (a := ⟨b, off + j, none⟩) (setRow_other _ _ _ _ hne)

end Go.Proofs.Ytmihpbdgilmdiaa
