/- errors.As at a chain of faults round a number: the number is found behind all of them; the outermost fault is found at once. -/
import Derived.Test.YtgbogglalnafeaaDoorErrFacts
namespace Go.Proofs.YtgbogglalnafeaaDoor
open Go.RowKit Go.Extern.Stop Go.Stop Go.Extern

/-- A CHAIN of faults in the world: the calls from the outermost on, the number innermost. -/
inductive Chain (w : World) (n : Int) : List ByteArray → Value → Prop
  | leaf : Chain w n [] (.iface 41 (.int .i64 n))
  | wrap (b : Nat) (c : ByteArray) (E : Value) (l : List ByteArray) : w.cell? ⟨b, 0, none⟩ = some (.string c) → w.cell? ⟨b, 1, none⟩ = some E → Chain w n l E → Chain w n (c :: l) (.iface 42 (.pointer (some ⟨b, 0, none⟩)))

theorem Chain.unique {w : World} {n : Int} {E : Value} {l l' : List ByteArray} (h : Chain w n l E) (h' : Chain w n l' E) : l = l' := by
  induction h generalizing l' with
  | leaf => cases h'; rfl
  | wrap b c E1 l1 hc he h1 ih =>
    cases h' with
    | wrap _ c2 E2 l2 hc2 he2 h2 => rw [hc] at hc2; cases hc2; rw [he] at he2; cases he2; rw [ih h2]

theorem Chain.mono {w w' : World} {n : Int} {E : Value} {l : List ByteArray} (h : Chain w n l E) (hb : Below w.heap.size w w') : Chain w' n l E := by
  induction h with
  | leaf => exact .leaf
  | wrap b c E1 l1 hc he h1 ih =>
    have hlt : b < w.heap.size := World.block_lt_of_cell? w ⟨b, 0, none⟩ hc
    exact .wrap b c E1 l1 ((hb.cell (p := ⟨b, 0, none⟩) hlt).trans hc) ((hb.cell (p := ⟨b, 1, none⟩) hlt).trans he) ih

theorem Chain.iface {w : World} {n : Int} {E : Value} {l : List ByteArray} (h : Chain w n l E) : ∃ u v, E = .iface u v := by
  cases h <;> exact ⟨_, _, rfl⟩

open Classical in
/-- How many faults are left: the loop's measure. -/
noncomputable def chainLen (w : World) (n : Int) (E : Value) : Nat := if h : ∃ l, Chain w n l E then h.choose.length else 0
theorem chainLen_eq {w : World} {n : Int} {E : Value} {l : List ByteArray} (h : Chain w n l E) : chainLen w n E = l.length := by
  unfold chainLen
  rw [dif_pos ⟨l, h⟩]
  rw [Chain.unique (Exists.choose_spec (⟨l, h⟩ : ∃ l, Chain w n l E)) h]

set_option maxRecDepth 1000000 in
/-- errors.as at the target *api.Errno. -/
theorem as_num {W : World} (n : Int) (t a : Addr) (old : Value) (E : Value) (l : List ByteArray) (hch : Chain W n l E)
    (ht : W.cell? t = some old) (hf : W.frozen? t = false) (ha : W.cell? a = some (.pointer (some t))) :
    Calls Tryd.prog 34 #[E, .iface 44 (.pointer (some t)), .agg #[.pointer (some ⟨1, 44, none⟩), .pointer (some a), .int .u64 150], .iface 63 (.agg #[.pointer (some ⟨1, 41, none⟩)])] W
      fun e w' => e = .returned (.bool true) ∧ ∃ w1, Below W.heap.size W w1 ∧ w' = w1.setCell t (.int .i64 n) := by
  have c1 := callTypeOf
  have c2 := callAss
  have c3 := callElem
  have c4 := callValueOf
  have c5 := callSet
  have f1 := typeOfE
  have f2 := typeOfF
  have f3 := assEE
  have f4 := assFE
  have f5 := mAss
  have f6 := mUnwrap
  have f7 := noAsE
  have f8 := noAsF
  have f9 := hasUnF
  have f10 := valueOfE
  have htl : t.block < W.heap.size := World.block_lt_of_cell? W t ht
  have hal : a.block < W.heap.size := World.block_lt_of_cell? W a ha
  go_enter Tryd.func34, Tryd.ntmps34
  go_wp2
  go_loopw [0] (fun E' wl => wl = W.alloc (.cells #[.pointer (some ⟨1, 44, none⟩), .pointer (some a), .int .u64 150] 53) ∧ ∃ l', Chain W n l' E') (fun E' _ => chainLen W n E')
  case atStart => exact ⟨rfl, l, hch⟩
  case round =>
    obtain ⟨rfl, l', hc'⟩ := hrel
    cases hc' with
    | leaf =>
      have el := elemVPE a t (W.alloc (.cells #[.pointer (some ⟨1, 44, none⟩), .pointer (some a), .int .u64 150] 53)) (by rw [World.cell?_alloc_lt _ _ a hal]; exact ha)
      have st := setE t ⟨W.heap.size + 1, 0, none⟩ n old ((W.alloc (.cells #[.pointer (some ⟨1, 44, none⟩), .pointer (some a), .int .u64 150] 53)).alloc (.cells #[.int .i64 n] 41))
        (by rw [World.cell?_alloc_at _ _ _ _ (by simp)]; rfl)
        (by rw [World.cell?_alloc_lt _ _ t (by simp; omega), World.cell?_alloc_lt _ _ t htl]; exact ht)
        (by rw [World.frozen?_alloc_old _ _ t (by simp; omega), World.frozen?_alloc_old _ _ t (Nat.ne_of_lt htl)]; exact hf)
      go_wp2
      go_ret
      exact ⟨rfl, _, ((Below.refl _ _).alloc (Nat.le_refl _) _).alloc (by simp) _, rfl⟩
    | wrap b c E1 l1 hb0 hb1 h1 =>
      obtain ⟨u1, v1, rfl⟩ := h1.iface
      have hlen := chainLen_eq h1
      have hlen0 := chainLen_eq (Chain.wrap b c _ l1 hb0 hb1 h1)
      have HC : Hid (Chain W n l1 (.iface u1 v1)) := h1
      have HL : Hid (chainLen W n (.iface u1 v1) < chainLen W n (.iface 42 (.pointer (some ⟨b, 0, none⟩)))) := by
        show _ < _
        rw [hlen, hlen0]; simp
      clear h1 hlen hlen0
      have hbl : b < W.heap.size := World.block_lt_of_cell? W ⟨b, 0, none⟩ hb0
      have hb1' : (W.alloc (.cells #[.pointer (some ⟨1, 44, none⟩), .pointer (some a), .int .u64 150] 53)).cell? ⟨b, 1, none⟩ = some (.iface u1 v1) := by
        rw [World.cell?_alloc_lt _ _ ⟨b, 1, none⟩ hbl]; exact hb1
      go_wp2
      go_roundw
      case rel => exact ⟨trivial, l1, HC.out⟩
      case measure => exact HL.out

set_option maxRecDepth 1000000 in
/-- errors.as at the target **api.Fault: the outermost fault is the answer. -/
theorem as_fault {W : World} (t a p : Addr) (old : Value)
    (ht : W.cell? t = some old) (hf : W.frozen? t = false) (ha : W.cell? a = some (.pointer (some t))) :
    Calls Tryd.prog 34 #[.iface 42 (.pointer (some p)), .iface 45 (.pointer (some t)), .agg #[.pointer (some ⟨1, 45, none⟩), .pointer (some a), .int .u64 150], .iface 63 (.agg #[.pointer (some ⟨1, 42, none⟩)])] W
      fun e w' => e = .returned (.bool true) ∧ ∃ w1, Below W.heap.size W w1 ∧ w' = w1.setCell t (.pointer (some p)) := by
  have c1 := callTypeOf
  have c2 := callAss
  have c3 := callElem
  have c4 := callValueOf
  have c5 := callSet
  have f2 := typeOfF
  have f4 := assFF
  have f5 := mAss
  have f10 := valueOfF
  have htl : t.block < W.heap.size := World.block_lt_of_cell? W t ht
  have hal : a.block < W.heap.size := World.block_lt_of_cell? W a ha
  have el := elemVPF a t (W.alloc (.cells #[.pointer (some ⟨1, 45, none⟩), .pointer (some a), .int .u64 150] 53)) (by rw [World.cell?_alloc_lt _ _ a hal]; exact ha)
  have st := setF t ⟨W.heap.size + 1, 0, none⟩ p old ((W.alloc (.cells #[.pointer (some ⟨1, 45, none⟩), .pointer (some a), .int .u64 150] 53)).alloc (.cells #[.pointer (some p)] 42))
    (by rw [World.cell?_alloc_at _ _ _ _ (by simp)]; rfl)
    (by rw [World.cell?_alloc_lt _ _ t (by simp; omega), World.cell?_alloc_lt _ _ t htl]; exact ht)
    (by rw [World.frozen?_alloc_old _ _ t (by simp; omega), World.frozen?_alloc_old _ _ t (Nat.ne_of_lt htl)]; exact hf)
  go_enter Tryd.func34, Tryd.ntmps34
  go_wp2
  refine wp_loop_rounds 1 ?_
  rw [rounds_succ]
  go_wp2
  go_ret
  exact ⟨rfl, _, ((Below.refl _ _).alloc (Nat.le_refl _) _).alloc (by simp) _, rfl⟩

set_option maxRecDepth 1000000 in
/-- errors.as at the target **api.Fault: a bare number is no fault. -/
theorem as_fault_none {W : World} (t a : Addr) (n : Int) :
    Calls Tryd.prog 34 #[.iface 41 (.int .i64 n), .iface 45 (.pointer (some t)), .agg #[.pointer (some ⟨1, 45, none⟩), .pointer (some a), .int .u64 150], .iface 63 (.agg #[.pointer (some ⟨1, 42, none⟩)])] W
      fun e w' => e = .returned (.bool false) ∧ Below W.heap.size W w' := by
  have c1 := callTypeOf
  have c2 := callAss
  have f1 := typeOfE
  have f4 := assEF
  have f5 := mAss
  have f7 := noAsE
  have f8 := noUnE
  have f9 := noUnsE
  go_enter Tryd.func34, Tryd.ntmps34
  go_wp2
  refine wp_loop_rounds 1 ?_
  rw [rounds_succ]
  go_wp2
  go_ret
  exact ⟨rfl, (Below.refl _ _).alloc (Nat.le_refl _) _⟩

end Go.Proofs.YtgbogglalnafeaaDoor
