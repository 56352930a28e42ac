/- Packages packed and geyserref02, what makes lists: Unpack (both), the document's Xor and Pack; Same, SameWords at like lists; Xor, Odd. -/
import Derived.Test.YtlbeobocppmifaaDoorPkRead
import Derived.Test.YtlbeobocppmifaaDoorErrFault
import Derived.OwnWalk
import Derived.WalkSpells
import Derived.WalkLawsBesides
import Derived.Deep.LoopGhost
namespace Go.Proofs.YtlbeobocppmifaaDoor
open Go.RowKit Go.Extern.Stop Go.Stop Go.Extern

def colV (c : Nat) : Value := .int .i64 (c : Int)

theorem ListAt.cols {w : World} {v : Value} {l : List Nat} (h : ListAt colV w v l) : ListAt intV w v (l.map Int.ofNat) := by
  obtain ⟨a, cap, rfl, hc, hm, h⟩ := h
  refine ⟨a, cap, by simp, by simpa using hc, hm, fun hp => ?_⟩
  obtain ⟨b, off, rfl, hcell⟩ := h (by simpa using hp)
  refine ⟨b, off, rfl, fun j hj => ?_⟩
  rw [hcell j (by simpa using hj)]
  simp [intV, colV]

theorem ListAt.take {α : Type} {f : α → Value} {w : World} {a : Option Addr} {cap : Nat} {l : List α} (h : ListAt f w (.slice a l.length cap) l) (k : Nat) (hk : k ≤ l.length) : ListAt f w (.slice a k cap) (l.take k) := by
  obtain ⟨a', cap', e, hc, hm, h⟩ := h
  cases e
  have hl : (l.take k).length = k := by rw [List.length_take]; omega
  refine ⟨a, cap, by rw [hl], by omega, hm, fun hp => ?_⟩
  obtain ⟨b, off, rfl, hcell⟩ := h (by omega)
  refine ⟨b, off, rfl, fun j hj => ?_⟩
  rw [hcell j (by omega)]
  simp

theorem own_snoc {α : Type} {f : α → Value} {w : World} {B q : Nat} {e : TypeId} {v : Value} {l : List α} {x : α} (hq : l.length = q) (h : w.ownsRow B e 1 v (q + 1) (l.map f ++ [f x])) :
    w.ownsRow B e 1 v (l ++ [x]).length ((l ++ [x]).map f) := by
  rw [List.map_append, List.length_append]
  subst hq
  exact h

/-! ### packed.Unpack -/
theorem colsTo_end (ws : List Nat) (k n : Nat) (hn : n ≤ 64) (hz : ∀ b, n ≤ b → (ws.getD k 0).testBit b = false) : colsTo ws (64 * (k + 1)) = colsTo ws (64 * k + n) := by
  have := colsTo_gap ws (64 * k + n) (64 - n) fun c h1 h2 => by
    have e : c = k * 64 + (c - 64 * k) := by omega
    rw [e, bitW_at _ _ _ (by omega)]
    exact hz _ (by omega)
  rw [← this]
  congr 1
  omega

/-! ### the document's exclusive or -/
def symI (l m : List Int) (n : Nat) : List Nat := (List.range n).filter fun c => decide ((c : Int) ∈ l) != decide ((c : Int) ∈ m)
theorem symI_length_le (l m : List Int) (n : Nat) : (symI l m n).length ≤ n := Nat.le_trans (List.length_filter_le _ _) (by simp)
theorem symI_one (l m : List Int) (n : Nat) (h : (decide ((n : Int) ∈ l) != decide ((n : Int) ∈ m)) = true) : symI l m (n + 1) = symI l m n ++ [n] := by
  unfold symI; rw [List.range_succ, List.filter_append]; simp only [List.filter_cons, List.filter_nil, h]; rfl
theorem symI_none (l m : List Int) (n : Nat) (h : (decide ((n : Int) ∈ l) != decide ((n : Int) ∈ m)) = false) : symI l m (n + 1) = symI l m n := by
  unfold symI; rw [List.range_succ, List.filter_append]; simp only [List.filter_cons, List.filter_nil, h]; simp

theorem neqBool (p q r : Bool) (h : (p != q) = r) (w : World) : (binOp .neq 4 (.bool p) (.bool q)).run Tryd.prog w = .ok (.bool r) w := by
  subst h; cases p <;> cases q <;> kernel_rfl

/-! ### like lists are the same -/
theorem below_draws {B : Nat} {a w : World} (h : Below B a w) (n : Nat) : Below B a (w.drewN n) := h.trans ⟨rfl, rfl, rfl, Nat.le_refl _, fun _ _ => rfl⟩

set_option maxRecDepth 1000000 in
theorem SameI_any {w : World} (v1 v2 : Value) (l : List Int) (h1 : ListAt intV w v1 l) (h2 : ListAt intV w v2 l) :
    Calls Tryd.prog 18 #[v1, v2] w fun e w' => e = .returned (.bool true) ∧ Below w.heap.size w w' := by
  have hlen := h1.len
  obtain ⟨a1, cap1, rfl, hcap1, -, hcell1⟩ := h1
  obtain ⟨a2, cap2, rfl, hcap2, -, hcell2⟩ := h2
  have HC1 := Lib.hid hcell1
  have HC2 := Lib.hid hcell2
  clear hcell1 hcell2
  go_enter Tryd.func18, Tryd.ntmps18
  go_wp2
  go_loopw [5] (fun i wr => ∃ k : Nat, k ≤ l.length ∧ i = .int .i64 k ∧ Below w.heap.size w wr) (fun i _ => l.length - (intOf i).toNat)
  case atStart => exact ⟨0, Nat.zero_le _, rfl, Below.refl _ _⟩
  case round =>
    obtain ⟨k, hk, rfl, hbel⟩ := hrel
    have HB := Lib.hid hbel
    by_cases hlt : k < l.length
    · obtain ⟨b1, off1, rfl, hc1⟩ := HC1.out (by omega)
      obtain ⟨b2, off2, rfl, hc2⟩ := HC2.out (by omega)
      have hx1 : w.cell? ⟨b1, off1 + k, none⟩ = some (.int .i64 l[k]) := hc1 k hlt
      have hx2 : w.cell? ⟨b2, off2 + k, none⟩ = some (.int .i64 l[k]) := hc2 k hlt
      have hy1 : wr.cell? ⟨b1, off1 + k, none⟩ = some (.int .i64 l[k]) := (hbel.cell (p := ⟨b1, off1 + k, none⟩) (World.block_lt_of_cell? w _ hx1)).trans hx1
      have hy2 : wr.cell? ⟨b2, off2 + k, none⟩ = some (.int .i64 l[k]) := (hbel.cell (p := ⟨b2, off2 + k, none⟩) (World.block_lt_of_cell? w _ hx2)).trans hx2
      clear hbel hc1 hc2 hx1 hx2
      generalize l[k] = y at *
      have hyb : (y != y) = false := by simp
      go_wp2
      go_quiet (fail)
      go_wp2
      go_roundw
      case rel => exact ⟨k + 1, by omega, by go_num, below_draws HB.out _⟩
      case measure => simp [intOf]; omega
    · clear hbel
      go_wp2
      go_ret
      exact ⟨rfl, HB.out⟩

set_option maxRecDepth 1000000 in
theorem SameW_any {w : World} (v1 v2 : Value) (l : List Nat) (h1 : ListAt wordV w v1 l) (h2 : ListAt wordV w v2 l) :
    Calls Tryd.prog 40 #[v1, v2] w fun e w' => e = .returned (.bool true) ∧ Below w.heap.size w w' := by
  have hlen := h1.len
  obtain ⟨a1, cap1, rfl, hcap1, -, hcell1⟩ := h1
  obtain ⟨a2, cap2, rfl, hcap2, -, hcell2⟩ := h2
  have HC1 := Lib.hid hcell1
  have HC2 := Lib.hid hcell2
  clear hcell1 hcell2
  go_enter Tryd.func40, Tryd.ntmps40
  go_wp2
  go_loopw [5] (fun i wr => ∃ k : Nat, k ≤ l.length ∧ i = .int .i64 k ∧ Below w.heap.size w wr) (fun i _ => l.length - (intOf i).toNat)
  case atStart => exact ⟨0, Nat.zero_le _, rfl, Below.refl _ _⟩
  case round =>
    obtain ⟨k, hk, rfl, hbel⟩ := hrel
    have HB := Lib.hid hbel
    by_cases hlt : k < l.length
    · obtain ⟨b1, off1, rfl, hc1⟩ := HC1.out (by omega)
      obtain ⟨b2, off2, rfl, hc2⟩ := HC2.out (by omega)
      have hx1 : w.cell? ⟨b1, off1 + k, none⟩ = some (.int .u64 (l[k] : Int)) := hc1 k hlt
      have hx2 : w.cell? ⟨b2, off2 + k, none⟩ = some (.int .u64 (l[k] : Int)) := hc2 k hlt
      have hy1 : wr.cell? ⟨b1, off1 + k, none⟩ = some (.int .u64 (l[k] : Int)) := (hbel.cell (p := ⟨b1, off1 + k, none⟩) (World.block_lt_of_cell? w _ hx1)).trans hx1
      have hy2 : wr.cell? ⟨b2, off2 + k, none⟩ = some (.int .u64 (l[k] : Int)) := (hbel.cell (p := ⟨b2, off2 + k, none⟩) (World.block_lt_of_cell? w _ hx2)).trans hx2
      clear hbel hc1 hc2 hx1 hx2
      generalize l[k] = y at *
      have hyb : ((y : Int) != (y : Int)) = false := by simp
      go_wp2
      go_quiet (fail)
      go_wp2
      go_roundw
      case rel => exact ⟨k + 1, by omega, by go_num, below_draws HB.out _⟩
      case measure => simp [intOf]; omega
    · clear hbel
      go_wp2
      go_ret
      exact ⟨rfl, HB.out⟩
end Go.Proofs.YtlbeobocppmifaaDoor
