/- Package geyserref05: equations in memory; Rows, long, longs. -/
import Derived.Test.YtnkkaggepokjeaaDoorJoinB
import Derived.Test.YtnkkaggepokjeaaDoorElSt
namespace Go.Proofs.YtnkkaggepokjeaaDoor
open Go.RowKit Go.Extern.Stop Go.Stop Go.Extern




/-- A slice of equations (two slices each) that reads as a list. -/
def EqsAt (w : World) (v : Value) (L : List Eqn) : Prop :=
  ∃ a cap, v = .slice a L.length cap ∧ L.length ≤ cap ∧ cap ≤ maxLen ∧ (0 < L.length → ∃ b off, a = some ⟨b, off, none⟩ ∧
    ∀ j, j < L.length → ∃ r s, w.cell? ⟨b, off + j * 2, none⟩ = some r ∧ w.cell? ⟨b, off + j * 2 + 1, none⟩ = some s ∧ ListAt wordV w r (L.getD j noEq).1 ∧ ListAt byteV w s (L.getD j noEq).2)

theorem EqsAt.mono {w w' : World} {v : Value} {L : List Eqn} (h : EqsAt w v L) (hb : Below w.heap.size w w') : EqsAt w' v L := by
  obtain ⟨a, cap, rfl, h1, h2, h3⟩ := h
  refine ⟨a, cap, rfl, h1, h2, fun hp => ?_⟩
  obtain ⟨b, off, rfl, hc⟩ := h3 hp
  refine ⟨b, off, rfl, fun j hj => ?_⟩
  obtain ⟨r, s, c1, c2, l1, l2⟩ := hc j hj
  exact ⟨r, s, (hb.cell (p := ⟨b, off + j * 2, none⟩) (World.block_lt_of_cell? w _ c1)).trans c1, (hb.cell (p := ⟨b, off + j * 2 + 1, none⟩) (World.block_lt_of_cell? w _ c2)).trans c2, l1.mono hb, l2.mono hb⟩

theorem EqsAt.len {w : World} {v : Value} {L : List Eqn} (h : EqsAt w v L) : L.length ≤ 9223372036854775807 := by
  obtain ⟨a, cap, rfl, h1, h2, _⟩ := h
  unfold maxLen at h2
  omega

theorem EqsAt.nil (w : World) : EqsAt w nilS [] := ⟨none, 0, rfl, Nat.le_refl _, Nat.zero_le _, fun h => by simp at h⟩

def sysV (n size : Int) (v : Value) (c : Bool) : Value := .agg #[.int .i64 n, .int .i64 size, v, .bool c]

/-- A system's fields where they are laid. -/
def SysCells (b : Nat) (w : World) (n size : Int) (v : Value) (c : Bool) : Prop :=
  w.cell? ⟨b, 0, none⟩ = some (.int .i64 n) ∧ w.cell? ⟨b, 1, none⟩ = some (.int .i64 size) ∧ w.cell? ⟨b, 2, none⟩ = some v ∧ w.cell? ⟨b, 3, none⟩ = some (.bool c)
theorem SysCells.laid (w : World) (n size : Int) (v : Value) (c : Bool) (t : TypeId) : SysCells w.heap.size (w.alloc (.cells #[.int .i64 n, .int .i64 size, v, .bool c] t)) n size v c := by
  unfold SysCells
  refine ⟨?_, ?_, ?_, ?_⟩ <;> rw [World.cell?_alloc_new] <;> rfl
theorem SysCells.mono {b : Nat} {w w' : World} {n size : Int} {v : Value} {c : Bool} (h : SysCells b w n size v c) (hb : Below w.heap.size w w') : SysCells b w' n size v c :=
  ⟨(hb.cell (p := ⟨b, 0, none⟩) (World.block_lt_of_cell? w _ h.1)).trans h.1, (hb.cell (p := ⟨b, 1, none⟩) (World.block_lt_of_cell? w _ h.2.1)).trans h.2.1,
   (hb.cell (p := ⟨b, 2, none⟩) (World.block_lt_of_cell? w _ h.2.2.1)).trans h.2.2.1, (hb.cell (p := ⟨b, 3, none⟩) (World.block_lt_of_cell? w _ h.2.2.2)).trans h.2.2.2⟩
theorem sys_laid (w : World) (n size : Int) (v : Value) (c : Bool) : ∃ w0, w0 = w.alloc (.cells #[.int .i64 n, .int .i64 size, v, .bool c] 36) ∧ Below w.heap.size w w0 ∧ w0.heap.size = w.heap.size + 1 ∧ SysCells w.heap.size w0 n size v c :=
  ⟨_, rfl, (Below.refl _ _).alloc (Nat.le_refl _) _, World.size_alloc _ _, SysCells.laid w n size v c _⟩

def rowsTo (L : List Eqn) (k : Nat) : List (List Nat) := (L.take k).map (·.1)
def rowsE (L : List Eqn) : List (List Nat) := L.map (·.1)
theorem rowsTo_succ {L : List Eqn} {k : Nat} (h : k < L.length) : rowsTo L (k + 1) = rowsTo L k ++ [(L.getD k noEq).1] := by
  unfold rowsTo
  rw [List.take_succ_eq_append_getElem h, List.map_append]
  simp [h]
theorem rowsTo_length {L : List Eqn} {k : Nat} (h : k ≤ L.length) : (rowsTo L k).length = k := by unfold rowsTo; rw [List.length_map, List.length_take]; omega
theorem rowsTo_all (L : List Eqn) : rowsTo L L.length = rowsE L := by unfold rowsTo rowsE; rw [List.take_length]

set_option maxRecDepth 1000000 in
set_option maxHeartbeats 1000000 in
theorem Rows_any {w : World} (n size : Int) (v : Value) (c : Bool) (L : List Eqn) (h : EqsAt w v L) (hl : L.length ≤ 100000) :
    Calls Tryd.prog 58 #[sysV n size v c] w fun e w' => ∃ v', e = .returned v' ∧ MatAt wordV w' v' (rowsE L) ∧ Below w.heap.size w w' := by
  obtain ⟨i0, hi0, hz0, hz1, hz2⟩ := info_parts info_row
  obtain ⟨ad, cap, rfl, hcap, hcm, hcell⟩ := h
  obtain ⟨w0, hw0, hb0, hs0, hsc⟩ := sys_laid w n size (.slice ad L.length cap) c
  have HB0 := Lib.hid hb0
  have HSC := Lib.hid hsc
  have HC := Lib.hid hcell
  have HW0 := Lib.hid hw0
  clear hcell hsc hb0 hw0
  unfold sysV
  go_enter Tryd.func58, Tryd.ntmps58
  go_wp2
  rw [← HW0.out]
  go_loopw [3, 4] (fun o i wr => ∃ k : Nat, k ≤ L.length ∧ i = .int .i64 k ∧ MatOwn wordV 47 w0.heap.size 38 wr o (rowsTo L k) ∧ Below w0.heap.size w0 wr) (fun _ i _ => L.length - (intOf i).toNat)
  case atStart => exact ⟨0, Nat.zero_le _, rfl, by rw [← hs0]; exact MatOwn.start w0 (Nat.le_refl _), (Below.refl _ _).alloc (Nat.le_refl _) _⟩
  case round =>
    obtain ⟨k, hk, rfl, ⟨vs, hown, hel⟩, hbel⟩ := hrel
    have hsz := hbel.size
    have hs2 : wr.cell? ⟨w.heap.size, 2, none⟩ = some (.slice ad L.length cap) := (HSC.out.mono hbel).2.2.1
    by_cases hlt : k < L.length
    · obtain ⟨b, off, rfl, hcc⟩ := HC.out (by omega)
      obtain ⟨x, y, hx, hy, hlx, hly⟩ := hcc k hlt
      have HEN : Hid (ElAt wordV 47 w0.heap.size wr x (L.getD k noEq).1) := Lib.hid (ElAt.old (hlx.mono HB0.out) hbel)
      obtain ⟨ax, cx, rfl, -, -, -⟩ := hlx
      have hx0 : w0.cell? ⟨b, off + k * 2, none⟩ = some (.slice ax (L.getD k noEq).1.length cx) := (HB0.out.cell (p := ⟨b, off + k * 2, none⟩) (World.block_lt_of_cell? w _ hx)).trans hx
      have hx1 : wr.cell? ⟨b, off + k * 2, none⟩ = some (.slice ax (L.getD k noEq).1.length cx) := (hbel.cell (p := ⟨b, off + k * 2, none⟩) (World.block_lt_of_cell? w0 _ hx0)).trans hx0
      have HQ := Lib.hid (rowsTo_length hk)
      have HO := Lib.hid hown
      rw [rowsTo_length hk] at HO
      have HEL := Lib.hid hel
      have HB := Lib.hid hbel
      have HS := Lib.hid (rowsTo_succ hlt)
      clear hcc hx hx0 hy hly hown hel hbel
      generalize (L.getD k noEq).1 = r at *
      go_wp2_with (at_builtin; go_loud (refine wpList_append_own _ rfl _ _ 67 rfl w0.heap.size 38 i0 (.slice none 0 0) 1 24 Tryd.underlying67 hi0 hz0 hz1 hz2 rfl (by decide) u3 k vs rfl (HO.out.alloc _) ⟨wr.heap.size, 0, none⟩ 1 1 [.slice ax r.length cx] rfl rfl (cell_one_new _ _ _) (fun x hx => by simp at hx; subst hx; rfl) (by unfold maxLen; omega) (by omega) (by simp; omega) ?_; intro v2 w2 hown1 hgrow1 _; have hb2 := Lib.hid ((HB.out.alloc hsz _).grown hgrow1 (by simp; omega) (fun k hk => (HO.out.lt k hk).1)); have ho2 : Hid (MatOwn wordV 47 w0.heap.size 38 w2 v2 (rowsTo L k ++ [r])) := Lib.hid (MatOwn.app (by decide) (by rw [HQ.out]; exact HO.out) HEL.out HEN.out (by rw [HQ.out]; exact hown1) hgrow1); clear hown1 hgrow1))
      go_roundw
      case rel => exact ⟨k + 1, by omega, by go_num, by rw [HS.out]; exact ho2.out, hb2.out⟩
      case measure => simp [intOf]; omega
    · have hk' : k = L.length := by omega
      have HM := Lib.hid (MatOwn.at ⟨vs, hown, hel⟩)
      rw [hk', rowsTo_all] at HM
      have HB := Lib.hid (HB0.out.trans (hbel.mono (by omega)))
      clear hown hel hbel
      go_wp2
      go_ret
      exact ⟨_, rfl, HM.out, HB.out⟩
end Go.Proofs.YtnkkaggepokjeaaDoor
