import Derived.Test.YtkfimdpcadbcpaaGreatDoorA11
import Derived.Test.YtkfimdpcadbcpaaGreatDoorA10
import Derived.Test.YtkfimdpcadbcpaaGreatDoorA03
import Derived.Lib.AppendZerosOnto
import Derived.Lib.AppendZeros
import Derived.Laws.Append
import Derived.Test.YtkfimdpcadbcpaaGreatDoorA02
import Derived.Test.YtkfimdpcadbcpaaGreatDoorA09
import Derived.Test.YtkfimdpcadbcpaaGreatDoorA07
import Derived.OwnWalk
import Derived.WalkSpells
import Derived.WalkLawsBesides
import Derived.Deep.LoopGhost
import Derived.BigQuiet
import Derived.Deep.AppendLies
import Derived.Deep.RegionLaw
import Derived.Test.YtkfimdpcadbcpaaGreatDoorA01
import Derived.Test.YtkfimdpcadbcpaaGreatDoorA08
import Derived.Deep.RegionHeld
import Derived.Deep.MidRow
import Derived.Lib.SlBytesConst
import Derived.Lib.LazyBuf
import Derived.Laws.StructEq
import Derived.Deep.Cut
import Derived.Laws.CopyOwn
set_option linter.unusedSimpArgs false
set_option linter.unusedVariables false
set_option maxRecDepth 1000000
set_option maxHeartbeats 8000000
namespace Go.Proofs.YtkfimdpcadbcpaaGreatDoor
section
open Go.RowKit Go.Extern.Stop Go.Stop Go.Extern
def nameSnCheck : ByteArray := ⟨#[115, 101, 110, 100, 101, 114, 46, 67, 104, 101, 99, 107]⟩
def nameSnNew : ByteArray := ⟨#[115, 101, 110, 100, 101, 114, 46, 78, 101, 119]⟩
def nameSnTick : ByteArray := ⟨#[115, 101, 110, 100, 101, 114, 46, 84, 105, 99, 107]⟩
def nameSnSkip : ByteArray := ⟨#[115, 101, 110, 100, 101, 114, 46, 83, 107, 105, 112]⟩
def Fr (lo hi : Nat) (w w' : World) : Prop := Below lo w w' ∧ ∀ x, hi ≤ x → x < w.heap.size → w'.heap[x]? = w.heap[x]?
def SndAt := World → Nat → Nat → Nat → Snd → Nat → Prop
def ptrAt (g : Nat) : Value := .pointer (some ⟨g, 0, none⟩)
structure SnRep (At : SndAt) : Prop where
  le : ∀ {w lo hi g S t}, At w lo hi g S t → lo ≤ hi ∧ hi ≤ w.heap.size
  ok : ∀ {w lo hi g S t}, At w lo hi g S t → SndOk S ∧ t ≤ 1099511627775
  far : ∀ {w w' lo hi g S t}, At w lo hi g S t → (∀ x, lo ≤ x → x < hi → w'.heap[x]? = w.heap[x]?) → w.heap.size ≤ w'.heap.size → At w' lo hi g S t
  check : ∀ (w : World) (c : Cfg) (size : Int), CfgI c → I64 size →
    Calls Tryz.prog 10 #[cfgV c, .int .i64 size] w fun e w' => ∃ E, e = .returned E ∧ ErrAns (snN c size) nameSnCheck w' E ∧ Below w.heap.size w w'
  new : ∀ (w : World) (c : Cfg) (v : Value) (P : List Nat), CfgI c → ListAt byteV w v P → Octets P → DgTab w → Tab w →
    Calls Tryz.prog 14 #[cfgV c, v] w fun e w' => Below w.heap.size w w' ∧
      ((snN c P.length ≠ 0 ∧ ∃ E, e = .returned (.tuple #[.pointer none, E]) ∧ ErrAns (snN c P.length) nameSnNew w' E) ∨
       (snN c P.length = 0 ∧ ∃ g S, e = .returned (.tuple #[ptrAt g, .nilIface]) ∧ SndOf c P S ∧ At w' w.heap.size w'.heap.size g S 0))
  tick : ∀ (w : World) (lo hi g : Nat) (S : Snd) (t : Nat), At w lo hi g S t → DgTab w → Tab w →
    Calls Tryz.prog 20 #[ptrAt g] w fun e w' => Fr lo hi w w' ∧
      ((1099511627774 < t ∧ ∃ E, e = .returned (.tuple #[nilS, E]) ∧ ErrAns 7 nameSnTick w' E ∧ At w' lo hi g S t) ∨
       (t ≤ 1099511627774 ∧ ∃ v, e = .returned (.tuple #[v, .nilIface]) ∧ DgsNew w.heap.size w' v (tickL S t) ∧ At w' lo hi g S (t + 1)))
  skip : ∀ (w : World) (lo hi g : Nat) (S : Snd) (t : Nat) (n : Int), At w lo hi g S t → I64 n →
    Calls Tryz.prog 18 #[ptrAt g, .int .i64 n] w fun e w' => Fr lo hi w w' ∧
      (((n < 0 ∨ 1099511627775 < (t : Int) + n) ∧ ∃ E, e = .returned E ∧ ErrAns 1 nameSnSkip w' E ∧ At w' lo hi g S t) ∨
       (0 ≤ n ∧ (t : Int) + n ≤ 1099511627775 ∧ e = .returned .nilIface ∧ At w' lo hi g S (t + n.toNat)))
  now : ∀ (w : World) (lo hi g : Nat) (S : Snd) (t : Nat), At w lo hi g S t → Calls Tryz.prog 22 #[ptrAt g] w fun e w' => e = .returned (.int .i64 (t : Int)) ∧ Below w.heap.size w w'
  plan : ∀ (w : World) (lo hi g : Nat) (S : Snd) (t : Nat), At w lo hi g S t → Calls Tryz.prog 16 #[ptrAt g] w fun e w' => e = .returned (plV S.size S.b S.blocks S.long S.short) ∧ Below w.heap.size w w'
  tickNil : ∀ w : World, Calls Tryz.prog 20 #[.pointer none] w fun e w' => Below w.heap.size w w' ∧ ∃ E, e = .returned (.tuple #[nilS, E]) ∧ ErrAns 7 nameSnTick w' E
  skipNil : ∀ (w : World) (n : Int), I64 n → Calls Tryz.prog 18 #[.pointer none, .int .i64 n] w fun e w' => Below w.heap.size w w' ∧ ∃ E, e = .returned E ∧ ErrAns 7 nameSnSkip w' E
  nowNil : ∀ w : World, Calls Tryz.prog 22 #[.pointer none] w fun e w' => e = .returned (.int .i64 0) ∧ Below w.heap.size w w'
  planNil : ∀ w : World, Calls Tryz.prog 16 #[.pointer none] w fun e w' => e = .returned (plV 0 0 0 0 0) ∧ Below w.heap.size w w'
end

section
open Go.RowKit Go.Extern.Stop Go.Stop Go.Extern
def catTo (X : List (List Value)) (j : Nat) : List Value := (X.take j).flatten
theorem zDN {X : List (List Value)} {j : Nat} (h : j < X.length) : catTo X (j + 1) = catTo X j ++ X.getD j [] := by
  unfold catTo
  rw [List.take_add_one, List.flatten_append, List.getElem?_eq_getElem h]
  simp [List.getD_eq_getElem?_getD, h]
theorem zFj (X : List (List Value)) : catTo X X.length = X.flatten := by unfold catTo; rw [List.take_length]
theorem zKK (X : List (List Value)) (j : Nat) : (catTo X j).length ≤ X.flatten.length := by
  unfold catTo
  conv => rhs; rw [← List.take_append_drop j X, List.flatten_append]
  simp
theorem zIL {w : World} (n : Nat) (hn : n ≤ 140737488351300) : Calls Tryz.prog 175 #[.slice none 0 0, .int .i64 (n : Int)] w fun e w' => ∃ v, e = .returned v ∧ w'.ownsRow w.heap.size 5 1 v 0 [] ∧ Below w.heap.size w w' := by
  obtain ⟨i0, hi0, hz0, hz1, hz2⟩ := info_parts zAY
  by_cases h : n = 0
  · subst h
    go_enter Tryz.func175, Tryz.ntmps175
    go_wp2
    go_ret
    exact ⟨_, rfl, World.ownsRow_nil _ _ _ _, Below.refl _ _⟩
  · have hp : 0 < n := by omega
    have d1 : decide ((0 : Int) < (n : Int)) = true := decide_eq_true (by omega)
    have HG : Hid (grownCap w (0 + n) 0 5 ≤ maxLen ∧ n ≤ grownCap w (0 + n) 0 5) := lhd ⟨grownCap_le_maxLen w _ _ _ (by unfold maxLen; omega), by have := grownCap_ge w (0 + n) 0 5; omega⟩
    have hrz : ∀ ty, (Builtin.append_ #[31, 3] ty #[.slice none 0 0, .int .i64 (n : Int)]).run Tryz.prog w = .ok (.slice (some ⟨w.heap.size, 0, none⟩) n (grownCap w (0 + n) 0 5)) (w.drew.alloc (.cells (([] : List Value).toArray ++ Builtin.zeroCells (Value.int .u8 0).cells n ++ Builtin.zeroCells (Value.int .u8 0).cells (grownCap w (0 + n) 0 5 - (0 + n))) 5)) := fun ty => by
      have h := Lib.run_append_grow_zeros w 31 3 ty 5 i0 (Value.int .u8 0) .i64 .i64 Tryz.underlying31 Tryz.underlying3 hi0 hz0 none 0 0 [] (run_firstCells_none w.drew i0.size 0 0 0) n hp (by omega) (by omega) (by omega) (by rw [hz2]; omega) (growslice_fits (by omega) (by rw [hz2]; omega))
      rw [Nat.zero_add] at h ⊢
      exact h
    obtain ⟨G, hG⟩ : ∃ G, G = grownCap w (0 + n) 0 5 := ⟨_, rfl⟩
    rw [← hG] at hrz HG
    obtain ⟨W, hW⟩ : ∃ W, W = w.drew.alloc (.cells (([] : List Value).toArray ++ Builtin.zeroCells (Value.int .u8 0).cells n ++ Builtin.zeroCells (Value.int .u8 0).cells (G - (0 + n))) 5) := ⟨_, rfl⟩
    rw [← hW] at hrz
    have hcs : (Value.int .u8 0).cells.size = 1 := rfl
    have hsize : (([] : List Value).toArray ++ Builtin.zeroCells (Value.int .u8 0).cells n ++ Builtin.zeroCells (Value.int .u8 0).cells (G - (0 + n))).size = G * 1 := by
      have h2 := HG.out.2
      rw [Array.size_append, Array.size_append, size_zeroCells, size_zeroCells, hcs]
      simp
      omega
    have hheap : W.heap[w.heap.size]? = some (.cells (([] : List Value).toArray ++ Builtin.zeroCells (Value.int .u8 0).cells n ++ Builtin.zeroCells (Value.int .u8 0).cells (G - (0 + n))) 5 (0, 0)) := by rw [hW]; exact heap_alloc_new w.drew _
    have ho : W.ownsRow w.heap.size 5 1 (.slice (some ⟨w.heap.size, 0, none⟩) 0 G) 0 [] := ⟨rfl, .inr ⟨w.heap.size, G, _, rfl, Nat.le_refl _, hheap, Nat.zero_le _, HG.out.1, hsize, by simp⟩⟩
    have HO := lhd ho
    have HB : Hid (Below w.heap.size w W) := lhd (by rw [hW]; exact ((Below.refl _ _).drew).alloc (Nat.le_refl _) _)
    have hGn : n ≤ G := HG.out.2
    have hGm : G ≤ 9223372036854775807 := HG.out.1
    clear hG hW HG hcs hsize hheap ho
    go_enter Tryz.func175, Tryz.ntmps175
    go_wp2_with (at_builtin; refine Lib.wpList_append_run _ rfl _ _ _ _ rfl _ _ rfl rfl _ _ (hrz _) ?_)
    go_ret
    exact ⟨_, rfl, HO.out, HB.out⟩
theorem zCS {w : World} (v : Value) (X : List (List Value)) (h : MatAt id w v X) (h1 : ∀ l ∈ X, ∀ y ∈ l, y.oneCell' = true) (hX : X.length ≤ 4194304) (ht : X.flatten.length ≤ 140737488351300) :
    Calls Tryz.prog 141 #[v] w fun e w' => ∃ v', e = .returned v' ∧ w'.ownsRow w.heap.size 5 1 v' X.flatten.length X.flatten ∧ Below w.heap.size w w' := by
  obtain ⟨i0, hi0, hz0, hz1, hz2⟩ := info_parts zAY
  obtain ⟨a, cap, rfl, hc, hm, hcell⟩ := h.opens
  have HM := lhd h
  have HC := lhd hcell
  have H1 := lhd h1
  have HT : Hid (∀ j, (catTo X j).length ≤ 140737488351300) := lhd fun j => Nat.le_trans (zKK X j) ht
  have HS : Hid (∀ j, j < X.length → (catTo X (j + 1)).length = (catTo X j).length + (X.getD j []).length) := lhd fun j hj => by rw [zDN hj, List.length_append]
  have HA : Hid (catTo X X.length = X.flatten) := lhd (zFj X)
  have HN : Hid (∀ j, j < X.length → catTo X (j + 1) = catTo X j ++ X.getD j []) := lhd fun j hj => zDN hj
  rw [← zFj X]
  have HX0 : Hid (catTo X 0 = []) := lhd rfl
  have HEL : Hid (∀ j, j < X.length → ∀ y ∈ X.getD j [], y.oneCell' = true) := lhd fun j hj => h1 _ (by
    rw [List.getD_eq_getElem?_getD, List.getElem?_eq_getElem hj]; exact List.getElem_mem hj)
  clear h h1 ht hcell
  generalize hn : X.length = n at *
  go_enter Tryz.func141, Tryz.ntmps141
  go_wp2_with fail
  go_loopw [3, 11] (fun s i wr => ∃ j : Nat, j ≤ n ∧ i = .int .i64 (j : Int) ∧ s = .int .i64 (((catTo X j).length : Nat) : Int) ∧ w = wr) (fun _ i _ => n - (intOf i).toNat)
  case atStart => exact ⟨0, by omega, rfl, by rw [HX0.out]; rfl, rfl⟩
  case round =>
    obtain ⟨j, hj, rfl, rfl, rfl⟩ := hrel
    by_cases hlt : j < n
    · obtain ⟨b, off, hab, hcc⟩ := HC.out (by omega)
      subst hab
      obtain ⟨x, hx, hxl⟩ := hcc j hlt
      obtain ⟨ax, cx, rfl, hxc, hxm, -⟩ := hxl
      have hst := HS.out j hlt
      have hle := HT.out (j + 1)
      have hle0 := HT.out j
      have HST := lhd hst
      have d1 : decide ((j : Int) < (n : Int)) = true := decide_eq_true (by omega)
      rw [hst] at hle
      clear hst hcc
      generalize (catTo X j).length = t at *
      generalize (X.getD j []).length = c at *
      have d2 : decide ((t : Int) + (c : Int) < 0) = false := decide_eq_false (by omega)
      go_wp2
      go_roundw
      case rel => exact ⟨j + 1, hlt, by go_num, by rw [HST.out]; go_num, trivial⟩
      case measure => simp [intOf]; omega
    · obtain rfl : j = n := by omega
      have d1 : decide ((j : Int) < (j : Int)) = false := decide_eq_false (by omega)
      have hle0 := HT.out j
      have HG : Hid (Calls Tryz.prog 175 #[.slice none 0 0, .int .i64 (((catTo X j).length : Nat) : Int)] w fun e w' => ∃ v, e = .returned v ∧ w'.ownsRow w.heap.size 5 1 v 0 [] ∧ Below w.heap.size w w') := lhd (zIL _ hle0)
      generalize ht : (catTo X j).length = t at HG hle0 ⊢
      go_wp2_with fail
      refine HG.out.mono ?_
      rintro e w1 ⟨g, rfl, ho, hb1⟩
      have HO := lhd ho
      have HB1 := lhd hb1
      clear ho hb1 ht
      go_wp2_with fail
      go_loopw [6, 27] (fun nv i wr => ∃ k : Nat, k ≤ j ∧ i = .int .i64 (k : Int) ∧ wr.ownsRow w.heap.size 5 1 nv (catTo X k).length (catTo X k) ∧ Below w.heap.size w wr) (fun _ i _ => j - (intOf i).toNat)
      case atStart => exact ⟨0, by omega, rfl, by rw [HX0.out]; exact HO.out, HB1.out⟩
      case round =>
        obtain ⟨k, hk, rfl, hown, hbel⟩ := hrel
        have HO2 := lhd hown
        have HB := lhd hbel
        have hsz := hbel.size
        obtain ⟨an, cn, rfl, -, -⟩ := zAe hown
        by_cases hlt : k < j
        · obtain ⟨b, off, hab, hcc⟩ := HC.out (by omega)
          subst hab
          obtain ⟨x, hx, hxl⟩ := hcc k hlt
          have hx' := (hbel.cell (p := ⟨b, off + k, none⟩) (World.block_lt_of_cell? w _ hx)).trans hx
          have HXL := lhd (hxl.mono hbel)
          have hst := HS.out k hlt
          have hle := HT.out (k + 1)
          have hle0 := HT.out k
          have HNX := lhd (HN.out k hlt)
          have HE1 := lhd (HEL.out k hlt)
          have d2 : decide ((k : Int) < (j : Int)) = true := decide_eq_true (by omega)
          rw [hst] at hle
          clear hst hcc hown hbel hx
          generalize X.getD k [] = r at *
          generalize catTo X k = tk at *
          obtain ⟨ax, cx, rfl, hxc, hxm, -⟩ := hxl
          go_wp2_with (at_builtin; refine zAB _ rfl (.tmp 31) (.tmp 32) 31 rfl w.heap.size 5 i0 (Value.int .u8 0) 1 Tryz.underlying31 hi0 hz0 hz1 hz2 rfl (.slice an tk.length cn) tk.length tk rfl HO2.out (.slice ax r.length cx) r rfl HXL.out HE1.out (by unfold maxLen; omega) (by omega) hsz ?_; intro v' w' ho' hg'; have HO3 := lhd ho'; have HB3 := lhd (HB.out.grown hg' hsz (fun q hq => (HO2.out.lt q hq).1)); clear ho' hg')
          go_roundw
          case rel => exact ⟨k + 1, hlt, by go_num, by rw [HNX.out, List.length_append]; simpa using HO3.out, HB3.out⟩
          case measure => simp [intOf]; omega
        · obtain rfl : k = j := by omega
          have d2 : decide ((k : Int) < (k : Int)) = false := decide_eq_false (by omega)
          clear hown hbel
          go_wp2
          go_ret
          exact ⟨_, rfl, HO2.out, HB.out⟩
end

section
open Go.RowKit Go.Extern.Stop Go.Stop Go.Extern
theorem zCT {s b n l q : Nat} (h : PlanOk s b n l q) (P : List Nat) {i : Nat} (hi : i < n) : (cutF s b l q P i).length = cntP l q i := by
  have h1 : offP l q (i + 1) ≤ offP l q n := zIX hi
  rw [zFC, h.off] at h1
  unfold cutF
  rw [List.length_take, List.length_drop, zBQ]
  omega
theorem zJg {s b l q : Nat} (P : List Nat) (i : Nat) : ∀ r ∈ cutF s b l q P i, r.length = b := fun r hr => zGq r (List.mem_of_mem_drop (List.mem_of_mem_take hr))
end

section
open Go.RowKit Go.Extern.Stop Go.Stop Go.Extern
def CfgBox (W : World) (g : Nat) (c : Cfg) : Prop := W.heap[g]? = some (.cells (cfgC c) 23 (0, 0))
section
variable {W W' : World} {g : Nat} {c : Cfg}
theorem CfgBox.lt (b : CfgBox W g c) : g < W.heap.size := (Array.getElem?_eq_some_iff.1 b).1
theorem CfgBox.mono (b : CfgBox W g c) (hb : Below W.heap.size W W') : CfgBox W' g c := (hb.block g b.lt).trans b
theorem CfgBox.cells (b : CfgBox W g c) : W.cell? ⟨g, 0, none⟩ = some (.int .i64 c.ses) ∧ W.cell? ⟨g, 1, none⟩ = some (.int .i64 c.g) ∧ W.cell? ⟨g, 2, none⟩ = some (.int .i64 c.n) ∧ W.cell? ⟨g, 3, none⟩ = some (.int .i64 c.b) ∧
    W.cell? ⟨g, 4, none⟩ = some (.int .i64 c.k) ∧ W.cell? ⟨g, 5, none⟩ = some (.int .i64 c.base) ∧ W.cell? ⟨g, 6, none⟩ = some (.int .i64 c.burst) ∧ W.cell? ⟨g, 7, none⟩ = some (.int .i64 c.every) :=
  ⟨zAa b rfl, zAa b rfl, zAa b rfl, zAa b rfl, zAa b rfl, zAa b rfl, zAa b rfl, zAa b rfl⟩
end
theorem zAM (w : World) (c : Cfg) : ∃ W, W = w.alloc (.cells #[.int .i64 c.ses, .int .i64 c.g, .int .i64 c.n, .int .i64 c.b, .int .i64 c.k, .int .i64 c.base, .int .i64 c.burst, .int .i64 c.every] 23) ∧ Below w.heap.size w W ∧ CfgBox W w.heap.size c :=
  ⟨_, rfl, (Below.refl _ _).alloc (Nat.le_refl _) _, heap_alloc_new w _⟩
end

section
open Go.RowKit Go.Extern.Stop Go.Stop Go.Extern
section
variable {P : Program} {ops : Array Oper} {o : Oper} {a : Act} {w : World} {Q : Exit → Act → World → Prop}
theorem zCa {K : Act → World → Prop} {E : Prop} (hw : Region.wanted o (yielded ops a.tmps) = true) (ty : TypeId) (x y : Operand) (ho : o.op = .store ty x y)
    (g : Nat) (cells : Array Value) (hx : a.eval x = .pointer (some ⟨g, 0, none⟩)) (hy : a.eval y = .agg cells)
    (t : TypeId) (old : Array Value) (hg : w.heap[g]? = some (.cells old t (0, 0))) (hi : (P.info? ty).map (·.size) = some cells.size)
    (hold : old.size = cells.size) (h1 : cells.all (·.oneCell') = true)
    (h : K (a.put o.dst undef) (w.setRow g cells)) : if Region.wanted o (yielded ops a.tmps) = true then Oper.wp P o a w K Q else E := by
  rw [if_pos hw]; exact wp_store_row ty x y ho g cells hx hy t old hg hi hold h1 h
theorem zDJ (t : TypeId) (parts : Array (Nat × Operand)) (ho : o.op = .build t parts) (cells : Array Value) (hb : P.built t (parts.map fun (i, x) => (i, a.eval x)).toList = some cells) :
    (execOp a.eval o).run P w = .ok (.value (.agg cells)) w := by
  unfold execOp
  simp only [ho, Sem.run_bind, run_build w t _ cells hb, Result.andThen_ok]
  rfl
end
theorem zEZ {P : Program} {o : Oper} {a : Act} {V : World} {cs : Array Value} (ty : TypeId) (x : Operand) (ho : o.op = .load ty x) (g : Nat) (hx : a.eval x = .pointer (some ⟨g, 0, none⟩)) (t : TypeId) (fr : Nat × Nat) (d : TypeDesc)
    (hg : V.heap[g]? = some (.cells cs t fr)) (hu : P.underlying ty = some d) (hd : (match d with | .struct _ | .array _ _ => true | _ => false) = true) (hi : (P.info? ty).map (·.size) = some cs.size) : (execOp a.eval o).run P V = .ok (.value (.agg cs)) V := by
  unfold execOp
  simp only [ho, hx, Instr.loadAt, Instr.sureAddr, Sem.run_bind, Sem.run_pure, Result.andThen_ok, run_loadVar_row V g t ty cs fr d hg hu hd hi]
theorem zFm {P : Program} {o : Oper} {a : Act} {V : World} {cs : List Value} (ty : TypeId) (x : Operand) (ho : o.op = .load ty x) (b off : Nat) (hx : a.eval x = .pointer (some ⟨b, off, none⟩)) (d : TypeDesc)
    (hc : V.rangeAt b off cs) (hu : P.underlying ty = some d) (hd : d.isRow = true) (hi : (P.info? ty).map (·.size) = some cs.length) : (execOp a.eval o).run P V = .ok (.value (.agg cs.toArray)) V := by
  unfold execOp
  simp only [ho, hx, Instr.loadAt, Instr.sureAddr, Sem.run_bind, Sem.run_pure, Result.andThen_ok, run_loadVar_mid V b off ty cs d hc hu hd hi]
theorem PktBox.set {W : World} {g : Nat} {p : Pkt} {D : Value} (h : PktBox W g p D) (j : Nat) (u : Value) (p' : Pkt) (D' : Value) (he : (pktC p D).setIfInBounds j u = pktC p' D') : PktBox (W.setCell ⟨g, j, none⟩ u) g p' D' := by
  unfold PktBox at *
  rw [zAc h, he]
end

section
open Go.RowKit Go.Extern.Stop Go.Stop Go.Extern
def CkAddC : Prop := ∀ (w : World) (v : Value) (l : List Nat), ListAt byteV w v l → Octets l → l.length ≤ 140737488351232 →
  Calls Tryz.prog 140 #[v] w fun e w' => ∃ v', e = .returned v' ∧ w'.ownsRow w.heap.size 5 1 v' (l.length + 4) ((l ++ le4 (crcSum l)).map byteV) ∧ Below w.heap.size w w'
def litB (w : World) (vs : List Nat) : World := w.alloc (.cells (vs.map byteV).toArray 5 (vs.length, vs.length + 1))
theorem zHb (w : World) (vs : List Nat) (hm : vs.length ≤ maxLen) : ListAt byteV (litB w vs) (.slice (some ⟨w.heap.size, 0, none⟩) vs.length vs.length) vs := by
  refine ⟨_, vs.length, rfl, Nat.le_refl _, hm, fun _ => ⟨_, 0, rfl, fun j hj => ?_⟩⟩
  rw [Nat.zero_add]
  exact zAa (heap_alloc_new w _) (by simp [hj])
theorem zGL (w : World) (C : Array Value) (n c : Nat) : (convert 31 31 (.slice (some ⟨w.heap.size, 0, none⟩) n c)).run Tryz.prog (w.alloc (.cells C 5)) = .ok (.slice (some ⟨w.heap.size, 0, none⟩) n c) (w.alloc (.cells C 5 (C.size, C.size + 1))) := Lib.run_convert_bytes_const (P := Tryz.prog) w _ _ C n c Tryz.underlying31 Tryz.underlying5
end

section
open Go.RowKit Go.Extern.Stop Go.Stop Go.Extern
theorem zIi (x : Nat) (hx : x < 4294967296) : bits .and .u32 (x : Int) 1 = ((x % 2 : Nat) : Int) := by
  have h1 : (BitVec.ofInt 32 (x : Int)).toNat = x := by
    rw [BitVec.ofInt_natCast, BitVec.toNat_ofNat]; exact Nat.mod_eq_of_lt (by omega)
  have h2 : (BitVec.ofInt 32 1).toNat = 1 := by decide
  show IntKind.u32.wrap ((BitVec.ofInt 32 (x : Int) &&& BitVec.ofInt 32 1).toNat : Int) = _
  rw [BitVec.toNat_and, h1, h2, Nat.and_one_is_mod, IntKind.wrap_u32]
  omega
theorem zN8 (x : Nat) (hx : x < 4294967296) : bits BinOp.xor IntKind.u32 (if IntKind.u32.signed = true then -1 else IntKind.u32.max) (x : Int) = ((4294967295 - x : Nat) : Int) := by
  have hx2 : 4294967295 ^^^ x = 4294967295 - x := by rw [Nat.xor_comm, zLK hx]
  have h1 : (BitVec.ofInt 32 (x : Int)).toNat = x := by
    rw [BitVec.ofInt_natCast, BitVec.toNat_ofNat]; exact Nat.mod_eq_of_lt (by omega)
  have h2 : (BitVec.ofInt 32 (if IntKind.u32.signed = true then -1 else IntKind.u32.max)).toNat = 4294967295 := by decide
  show IntKind.u32.wrap ((BitVec.ofInt 32 _ ^^^ BitVec.ofInt 32 (x : Int)).toNat : Int) = _
  rw [BitVec.toNat_xor, h1, h2, hx2, IntKind.wrap_u32]
  omega
theorem zIF (n j : Nat) : crcR n (List.replicate (j + 1) false) = crcS (crcR n (List.replicate j false)) false := by
  rw [List.replicate_succ', zBH]; rfl
theorem zIZ (m : Nat) : crcS m false = if m % 2 = 1 then m / 2 ^^^ 2197175160 else m / 2 := by
  unfold crcS crcP
  rw [Nat.testBit_zero]
  by_cases h : m % 2 = 1
  · rw [if_pos h, if_neg (by simp [h])]
  · rw [if_neg h, if_pos (by simp [h])]
theorem zGp {w : World} (n : Nat) (hn : n < 4294967296) : Calls Tryz.prog 203 #[.int .u32 (n : Int)] w fun e w' => e = .returned (.int .u32 ((crcR n (List.replicate 8 false) : Nat) : Int)) ∧ w' = w := by
  have HLT : Hid (∀ j, crcR n (List.replicate j false) < 4294967296) := lhd fun j => zJt _ _ hn
  have HZ : Hid (∀ j, crcR n (List.replicate (j + 1) false) = crcS (crcR n (List.replicate j false)) false) := lhd (zIF n)
  have HZ0 : Hid (crcR n (List.replicate 0 false) = n) := lhd rfl
  go_enter Tryz.func203, Tryz.ntmps203
  go_wp2_with fail
  go_loopw [0, 4] (fun r i wr => ∃ j : Nat, j ≤ 8 ∧ i = .int .i64 (j : Int) ∧ r = .int .u32 ((crcR n (List.replicate j false) : Nat) : Int) ∧ wr = w) (fun _ i _ => 8 - (intOf i).toNat)
  case atStart => exact ⟨0, by omega, rfl, by rw [HZ0.out], rfl⟩
  case round =>
    obtain ⟨j, hj, rfl, rfl, rfl⟩ := hrel
    by_cases hlt : j < 8
    · have d1 : decide ((j : Int) < 8) = true := decide_eq_true (by omega)
      have hm := HLT.out j
      have HS := lhd (HZ.out j)
      generalize crcR n (List.replicate j false) = m at *
      have ha := zIi m hm
      have hh : (m : Int) / 2 = ((m / 2 : Nat) : Int) := by omega
      have hh2 : m / 2 < 4294967296 := by omega
      have hx : bits .xor .u32 ((m / 2 : Nat) : Int) 2197175160 = ((m / 2 ^^^ 2197175160 : Nat) : Int) := zDP (m / 2) 2197175160 hh2 (by decide)
      have HST := lhd (zIZ m)
      by_cases hb : m % 2 = 1
      · rw [if_pos hb] at HST
        rw [hb] at ha
        generalize m / 2 = h at *
        generalize h ^^^ 2197175160 = z at *
        clear hb
        go_wp2
        go_roundw
        case rel => exact ⟨j + 1, by omega, by go_num, by rw [HS.out, HST.out], trivial⟩
        case measure => simp [intOf]; omega
      · rw [if_neg hb] at HST
        rw [show m % 2 = 0 by omega] at ha
        generalize m / 2 = h at *
        clear hb
        go_wp2
        go_roundw
        case rel => exact ⟨j + 1, by omega, by go_num, by rw [HS.out, HST.out], trivial⟩
        case measure => simp [intOf]; omega
    · obtain rfl : j = 8 := by omega
      generalize hq : crcR n (List.replicate 8 false) = m
      go_wp2
      go_ret
      exact ⟨by rw [hq]; rfl, rfl⟩
theorem zLu (n y : Nat) (hy : y < 256) : crcR n (octBits y) = crcR (n ^^^ y) (List.replicate 8 false) := by
  rw [zFA (octBits y) n, zDv, zJn hy]
theorem zHf {w : World} (n : Nat) (hn : n < 4294967296) : Calls Tryz.prog 173 #[.int .u32 (n : Int)] w fun e w' => ∃ v', e = .returned v' ∧ w'.ownsRow w.heap.size 5 1 v' 4 ((le4 n).map byteV) ∧ Below w.heap.size w w' := by
  obtain ⟨j0, hj0, jz0, jz1, jz2⟩ := info_parts zAY
  have HG : Hid (∀ (vs : List Nat), vs.length = 4 → (∀ j, j < 4 → vs.getD j 0 = n / 2 ^ (8 * j) % 256) → vs = le4 n) := lhd fun vs hl h => by
    match vs, hl with
    | [a, b, c, d], _ =>
      have h0 := h 0 (by decide)
      have h1 := h 1 (by decide)
      have h2 := h 2 (by decide)
      have h3 := h 3 (by decide)
      simp at h0 h1 h2 h3
      unfold le4
      rw [h0, h1, h2, h3]
  go_enter Tryz.func173, Tryz.ntmps173
  go_wp2_with (at_make; refine wpList_make_full _ rfl _ _ 31 rfl w.heap.size 5 j0 (.int .u8 0) 1 Tryz.underlying31 hj0 jz0 jz1 .i64 .i64 _ _ 4 rfl rfl rfl rfl (by rw [jz2]; omega) (by unfold maxLen; omega) (Nat.le_refl _) ?_; intro w0 hown0 hgrow0; have hb0 := lhd ((Below.refl w.heap.size w).grown hgrow0 (Nat.le_refl _) (fun k hk => by cases hk)); have ho0 := lhd hown0; clear hown0 hgrow0)
  go_loopw [8] (fun i wr => ∃ k : Nat, k ≤ 4 ∧ i = .int .i64 k ∧ (∃ vs : List Nat, vs.length = 4 ∧ (∀ j, j < k → vs.getD j 0 = n / 2 ^ (8 * j) % 256) ∧ wr.ownsRow w.heap.size 5 1 (.slice (some ⟨w.heap.size, 0, none⟩) 4 4) 4 (vs.map byteV)) ∧ Below w.heap.size w wr) (fun i _ => 4 - (intOf i).toNat)
  case atStart => exact ⟨0, Nat.zero_le _, rfl, ⟨List.replicate 4 0, by simp, fun j hj => by omega, by rw [List.map_replicate]; have := ho0.out; rw [Nat.mul_one] at this; exact toList_madeCells_one (.int .u8 0) 4 ▸ this⟩, hb0.out⟩
  case round =>
    obtain ⟨k, hk, rfl, ⟨vs, hvl, hvs, hown⟩, hbel⟩ := hrel
    have hsz := hbel.size
    by_cases hlt : k < 4
    · have hy4 : wr.frozen? ⟨w.heap.size, k, none⟩ = false := hown.frozenAt k
      have hy3 : wr.cell? ⟨w.heap.size, k, none⟩ = some (.int .u8 ((vs.getD k 0 : Nat) : Int)) := by
        rw [hown.cellAt k (by omega)]
        simp [List.getD_eq_getElem?_getD, hvl, hlt, byteV]
      obtain ⟨D, hD⟩ : ∃ D, D = n / 2 ^ (8 * k) % 256 := ⟨_, rfl⟩
      have HX : Hid (∀ j, j < k + 1 → (vs.set k D).getD j 0 = n / 2 ^ (8 * j) % 256) := lhd fun j hj => by
        simp only [List.getD_eq_getElem?_getD, List.getElem?_set] at *
        by_cases e : k = j
        · subst e; rw [if_pos rfl, if_pos (by omega), ← hD]; rfl
        · rw [if_neg e]; exact hvs j (by omega)
      have HO := lhd hown
      have HB := lhd hbel
      have HL := lhd hvl
      have HK : Hid (k = 0 ∨ k = 1 ∨ k = 2 ∨ k = 3) := lhd (by omega)
      have HD := lhd hD
      clear hown hbel hvs hvl hD
      generalize vs.getD k 0 = z at hy3
      have hD8 : D < 256 := by rw [HD.out]; omega
      rcases HK.out with rfl | rfl | rfl | rfl
      · have h8 : (n : Int) % 256 = (D : Int) := by
          have := HD.out
          simp at this
          omega
        have h9 : (n : Int) / 2 ^ 0 % 256 = (D : Int) := by rw [← h8]; simp
        go_wp2
        go_roundw
        case rel => exact ⟨1, by omega, by go_num, ⟨vs.set 0 D, by simpa using HL.out, HX.out, by rw [List.map_set]; exact (HO.out.stored 0 (.int .u8 D)).1⟩, HB.out.setCell (p := ⟨w.heap.size, 0, none⟩) (Nat.le_refl _) _⟩
        case measure => simp [intOf]
      · have h8 : (n : Int) / 256 % 256 = (D : Int) := by
          have := HD.out
          simp at this
          omega
        have h9 : (n : Int) / 2 ^ 8 % 256 = (D : Int) := by rw [← h8]; simp
        go_wp2
        go_roundw
        case rel => exact ⟨2, by omega, by go_num, ⟨vs.set 1 D, by simpa using HL.out, HX.out, by rw [List.map_set]; exact (HO.out.stored 1 (.int .u8 D)).1⟩, HB.out.setCell (p := ⟨w.heap.size, 1, none⟩) (Nat.le_refl _) _⟩
        case measure => simp [intOf]
      · have h8 : (n : Int) / 65536 % 256 = (D : Int) := by
          have := HD.out
          simp at this
          omega
        have h9 : (n : Int) / 2 ^ 16 % 256 = (D : Int) := by rw [← h8]; simp
        go_wp2
        go_roundw
        case rel => exact ⟨3, by omega, by go_num, ⟨vs.set 2 D, by simpa using HL.out, HX.out, by rw [List.map_set]; exact (HO.out.stored 2 (.int .u8 D)).1⟩, HB.out.setCell (p := ⟨w.heap.size, 2, none⟩) (Nat.le_refl _) _⟩
        case measure => simp [intOf]
      · have h7 : (n : Int) / 16777216 = (D : Int) := by
          have := HD.out
          simp at this
          omega
        have h8 : (n : Int) / 16777216 % 256 = (D : Int) := by
          have := HD.out
          simp at this
          omega
        have h9 : (n : Int) / 2 ^ 24 % 256 = (D : Int) := by rw [← h8]; simp
        go_wp2
        go_roundw
        case rel => exact ⟨4, by omega, by go_num, ⟨vs.set 3 D, by simpa using HL.out, HX.out, by rw [List.map_set]; exact (HO.out.stored 3 (.int .u8 D)).1⟩, HB.out.setCell (p := ⟨w.heap.size, 3, none⟩) (Nat.le_refl _) _⟩
        case measure => simp [intOf]
    · have hk' : k = 4 := by omega
      have HO := lhd hown
      have HB := lhd hbel
      have HV : Hid (vs = le4 n) := lhd (HG.out vs hvl fun j hj => hvs j (by omega))
      clear hown hbel hvs hvl
      go_wp2
      go_ret
      exact ⟨_, rfl, by have := HO.out; rw [HV.out] at this; exact this, HB.out⟩
end

section
open Go.RowKit Go.Extern.Stop Go.Stop Go.Extern
theorem zKA (n : Nat) (L : List (List Nat)) (j : Nat) (h : j < L.length) : crcO n (L.take (j + 1)).flatten = crcO (crcO n (L.take j).flatten) (L.getD j []) := by
  rw [List.take_add_one, List.getElem?_eq_getElem h, List.flatten_append, zC8, List.getD_eq_getElem?_getD, List.getElem?_eq_getElem h]
  simp
theorem zH3 {w : World} (v : Value) (L : List (List Nat)) (h : MatAt byteV w v L) (ho : ∀ r ∈ L, Octets r) : Calls Tryz.prog 174 #[v] w fun e w' => e = .returned (.int .u32 ((crcSum L.flatten : Nat) : Int)) ∧ w' = w := by
  have hlen := h.len
  obtain ⟨a, cap, rfl, hcap, hcm, hcell⟩ := h.opens
  have HC := lhd hcell
  have HO : Hid (∀ j, j < L.length → Octets (L.getD j [])) := lhd fun j hj => ho _ (by
    rw [List.getD_eq_getElem?_getD, List.getElem?_eq_getElem hj]; exact List.getElem_mem hj)
  have HR0 : Hid (crcO 4294967295 (L.take 0).flatten = 4294967295) := lhd rfl
  have HLT : Hid (∀ j, crcO 4294967295 (L.take j).flatten < 4294967296) := lhd fun j => zJu _ _ (by decide)
  have HST : Hid (∀ j, j < L.length → crcO 4294967295 (L.take (j + 1)).flatten = crcO (crcO 4294967295 (L.take j).flatten) (L.getD j [])) := lhd (zKA 4294967295 L)
  have HEND : Hid (crcSum L.flatten = 4294967295 - crcO 4294967295 (L.take L.length).flatten) := lhd (by rw [List.take_length]; rfl)
  clear h ho hcell
  go_enter Tryz.func174, Tryz.ntmps174
  go_wp2_with fail
  go_loopw [3, 10] (fun n i wr => ∃ j : Nat, j ≤ L.length ∧ i = .int .i64 (j : Int) ∧ n = .int .u32 ((crcO 4294967295 (L.take j).flatten : Nat) : Int) ∧ wr = w) (fun _ i _ => L.length - (intOf i).toNat)
  case atStart => exact ⟨0, by omega, rfl, by rw [HR0.out]; rfl, rfl⟩
  case round =>
    obtain ⟨j, hj, rfl, rfl, rfl⟩ := hrel
    by_cases hlt : j < L.length
    · have d1 : decide ((j : Int) < (L.length : Int)) = true := decide_eq_true (by omega)
      obtain ⟨b, off, rfl, hcc⟩ := HC.out (by omega)
      obtain ⟨x, hx, hl1⟩ := hcc j hlt
      have ho1 := HO.out j hlt
      have hn0 := HLT.out j
      have HS1 := lhd (HST.out j hlt)
      have hrl := hl1.len
      obtain ⟨a1, c1, rfl, -, -, hcell1⟩ := hl1
      have HC1 := lhd hcell1
      have HO1 := lhd ho1
      clear hcc hcell1 ho1
      generalize crcO 4294967295 (L.take j).flatten = n0 at *
      generalize L.getD j [] = r at *
      have HT0 : Hid (crcO n0 (r.take 0) = n0) := lhd rfl
      have HTL : Hid (∀ t, crcO n0 (r.take t) < 4294967296) := lhd fun t => zJu _ _ hn0
      have HTS : Hid (∀ t, t < r.length → crcO n0 (r.take (t + 1)) = crcR (crcO n0 (r.take t)) (octBits (r.getD t 0))) := lhd fun t ht => zLg r n0 t ht
      have HTE : Hid (crcO n0 (r.take r.length) = crcO n0 r) := lhd (by rw [List.take_length])
      go_wp2_with fail
      go_loopw [3, 16] (fun n i wr' => ∃ t : Nat, t ≤ r.length ∧ i = .int .i64 (t : Int) ∧ n = .int .u32 ((crcO n0 (r.take t) : Nat) : Int) ∧ wr' = wr) (fun _ i _ => r.length - (intOf i).toNat)
      case atStart => exact ⟨0, by omega, rfl, by rw [HT0.out], rfl⟩
      case round =>
        obtain ⟨t, ht, rfl, rfl, rfl⟩ := hrel
        by_cases htl : t < r.length
        · have d2 : decide ((t : Int) < (r.length : Int)) = true := decide_eq_true (by omega)
          obtain ⟨b1, off1, rfl, hcc1⟩ := HC1.out (by omega)
          have hx1 := hcc1 t htl
          have hy : r.getD t 0 < 256 := HO1.out.getD t
          have hcell : wr.cell? ⟨b1, off1 + t, none⟩ = some (.int .u8 ((r.getD t 0 : Nat) : Int)) := by
            rw [hx1]; simp [List.getD_eq_getElem?_getD, htl, byteV]
          have hm := HTL.out t
          have HSS := lhd (HTS.out t htl)
          clear hcc1 hx1
          generalize r.getD t 0 = y at *
          generalize crcO n0 (r.take t) = m at *
          have hxr := zDP m y hm (by omega)
          have HMV := lhd (zGp (w := wr) (m ^^^ y) (Nat.xor_lt_two_pow (n := 32) (by omega) (by omega)))
          rw [← zLu m y hy] at HMV
          generalize m ^^^ y = z at *
          go_wp2_with fail
          refine HMV.out.mono ?_
          rintro e w1 ⟨rfl, rfl⟩
          rw [← HSS.out]
          go_wp2_with fail
          go_roundw
          case rel => exact ⟨t + 1, htl, by go_num, rfl, trivial⟩
          case measure => simp [intOf]; omega
        · obtain rfl : t = r.length := by omega
          have d2 : decide ((r.length : Int) < (r.length : Int)) = false := decide_eq_false (by omega)
          rw [HTE.out, ← HS1.out]
          go_wp2
          go_roundw
          case rel => exact ⟨j + 1, hlt, by go_num, rfl, trivial⟩
          case measure => simp [intOf]; omega
    · obtain rfl : j = L.length := by omega
      have d1 : decide ((L.length : Int) < (L.length : Int)) = false := decide_eq_false (by omega)
      have hn0 := HLT.out L.length
      generalize crcO 4294967295 (L.take L.length).flatten = n at *
      have hnt := zN8 n hn0
      go_wp2
      go_ret
      exact ⟨by rw [HEND.out]; rfl, rfl⟩
theorem zMO {w : World} {x : Value} {a : List Nat} (hx : ListAt byteV w x a) : MatAt byteV (w.alloc (.cells #[x] 31)) (.slice (some ⟨w.heap.size, 0, none⟩) 1 1) [a] := by
  have hb : Below w.heap.size w (w.alloc (.cells #[x] 31)) := (Below.refl _ _).alloc (Nat.le_refl _) _
  refine ⟨[x], ListAt.of_owns (f := id) (l := [x]) (zAq (base := 0) (n := 1) (g := w.heap.size) (e := 31) (xs := [x].map id) (Nat.zero_le _) rfl (by decide) (heap_alloc_new w _)), rfl, fun i => ?_⟩
  match i with
  | 0 => exact hx.mono hb
  | i + 1 => exact ListAt.nil _ _
theorem ListAt.vals1 {w : World} {v : Value} {l : List Nat} (h : ListAt byteV w v l) : ListAt id w v (l.map byteV) := by
  obtain ⟨a, cap, rfl, h1, h2, h3⟩ := h
  refine ⟨a, cap, by simp, by simpa using h1, h2, fun hp => ?_⟩
  obtain ⟨b, off, rfl, hc⟩ := h3 (by simpa using hp)
  refine ⟨b, off, rfl, fun j hj => ?_⟩
  rw [hc j (by simpa using hj)]
  simp
theorem zMG {w : World} {x y : Value} {a b : List Value} (hx : ListAt id w x a) (hy : ListAt id w y b) : MatAt id (w.alloc (.cells #[x, y] 31)) (.slice (some ⟨w.heap.size, 0, none⟩) 2 2) [a, b] := by
  have hb : Below w.heap.size w (w.alloc (.cells #[x, y] 31)) := (Below.refl _ _).alloc (Nat.le_refl _) _
  refine ⟨[x, y], ListAt.of_owns (f := id) (l := [x, y]) (zAq (base := 0) (n := 2) (g := w.heap.size) (e := 31) (xs := [x, y].map id) (Nat.zero_le _) rfl (by decide) (heap_alloc_new w _)), rfl, fun i => ?_⟩
  match i with
  | 0 => exact hx.mono hb
  | 1 => exact hy.mono hb
  | i + 2 => exact ListAt.nil _ _
theorem zNm : CkAddC := fun w v l h ho hR => by
  have hlen := h.len
  have HL := lhd h
  obtain ⟨a, cap, rfl, -, -, -⟩ := h
  have HB1 := lhd ((Below.refl w.heap.size w).alloc (Nat.le_refl _) (.cells #[.slice a l.length cap] 31))
  have HS := lhd (zH3 _ [l] (zMO HL.out) (by intro r hr; simp at hr; rw [hr]; exact ho))
  have hfl : [l].flatten = l := by simp
  rw [hfl] at HS
  have hn := zIp l
  have HLD : Hid (∀ V : World, Calls Tryz.prog 173 #[.int .u32 ((crcSum l : Nat) : Int)] V fun e w' => ∃ v', e = .returned v' ∧ w'.ownsRow V.heap.size 5 1 v' 4 ((le4 (crcSum l)).map byteV) ∧ Below V.heap.size V w') := lhd fun V => zHf _ hn
  have HE : Hid (∀ X Y : List Value, [X, Y].flatten = X ++ Y) := lhd fun X Y => by simp
  have HMM : Hid ((l ++ le4 (crcSum l)).map byteV = l.map byteV ++ (le4 (crcSum l)).map byteV) := lhd (List.map_append ..)
  have h4l : ((le4 (crcSum l)).map byteV).length = 4 := by rw [List.length_map]; rfl
  generalize crcSum l = n at *
  clear hfl ho
  go_enter Tryz.func140, Tryz.ntmps140
  go_wp2_with fail
  refine HS.out.mono ?_
  rintro e w1 ⟨rfl, rfl⟩
  go_wp2_with fail
  refine (HLD.out _).mono ?_
  rintro e w2 ⟨v2, rfl, ho2, hb2⟩
  have HB2 := lhd (HB1.out.trans (hb2.mono HB1.out.size))
  have HL2 := lhd (ListAt.of_owns (f := byteV) (l := le4 n) ho2)
  have HP2 := lhd (HL.out.mono HB2.out)
  obtain ⟨a2, c2, rfl, -, -⟩ := zAe ho2
  clear ho2 hb2
  have hm2 := zMG HP2.out.vals1 HL2.out.vals1
  have HB3 := lhd (HB2.out.alloc HB2.out.size (.cells #[(.slice a l.length cap), (.slice a2 4 c2)] 31))
  have HCC := lhd (zCS _ _ hm2 (by
    intro r hr y hy
    simp at hr
    rcases hr with rfl | rfl <;> · obtain ⟨z, -, rfl⟩ := List.mem_map.1 hy; rfl) (by simp) (by rw [HE.out, List.length_append, h4l, List.length_map]; omega))
  rw [HE.out, ← HMM.out, List.length_map, List.length_append, show (le4 n).length = 4 from rfl] at HCC
  clear hm2
  go_wp2_with fail
  refine HCC.out.mono ?_
  rintro e w4 ⟨v4, rfl, ho4, hb4⟩
  have HO4 := lhd (zAd ho4 HB3.out.size)
  have HB4 := lhd (HB3.out.trans (hb4.mono HB3.out.size))
  clear ho4 hb4
  go_wp2_with fail
  go_ret
  exact ⟨_, rfl, HO4.out, HB4.out⟩
end

section
open Go.RowKit Go.Extern.Stop Go.Stop Go.Extern
theorem zKn (w : World) (a b c d e a' b' c' d' e' : Int) : (binOp .eql 37 (.agg #[.int .i64 a, .int .i64 b, .int .i64 c, .int .i64 d, .int .i64 e]) (.agg #[.int .i64 a', .int .i64 b', .int .i64 c', .int .i64 d', .int .i64 e'])).run Tryz.prog w = .ok (.bool (decide (a = a' ∧ b = b' ∧ c = c' ∧ d = d' ∧ e = e'))) w := by
  have ui := Tryz.underlying3
  have a3 := Tryz.isAgg3
  have z3 := Tryz.sizeOf3
  have hS : Tryz.prog.underlying 37 = some (.struct (Tryz.prog.fieldsOf 37)) := by kernel_rfl
  have hp : Tryz.prog.stoodInHeld 37 = false := by kernel_rfl
  rw [run_eql_struct, show (10000 : Nat) = 9999 + 1 from rfl, run_equalIn_agg w 9999 37 _ _ hS hp]
  simp only [Program.fieldsOf, Tryz.underlying37]
  go_simp
  by_cases h1 : a = a' <;> by_cases h2 : b = b' <;> by_cases h3 : c = c' <;> by_cases h4 : d = d' <;> by_cases h5 : e = e' <;> simp [h1, h2, h3, h4, h5]
theorem zH8 (x y : Operand) (w : World) (a b : Array Value) : (eqGuard .eql 37 x y (.agg a) (.agg b)).run Tryz.prog w = .ok () w := run_eqGuard_agg w .eql 37 x y a b (by kernel_rfl)
end

section
open Go.RowKit Go.Extern.Stop Go.Stop Go.Extern
section
variable {P : Program} {ops : Array Oper} {rest : List Oper} {o : Oper} {a : Act} {w : World} {Q : Exit → Act → World → Prop}
theorem zAf {W : World} {t : TypeId} {old : Array Value} (cells : Array Value) (hgd : o.guard = none) (ty : TypeId) (x y : Operand) (ho : o.op = .store ty x y) (hx : a.eval x = .pointer (some ⟨W.heap.size, 0, none⟩)) (hy : a.eval y = .agg cells)
    (hi : (P.info? ty).map (·.size) = some cells.size) (hold : old.size = cells.size) (h1 : cells.all (·.oneCell') = true)
    (h : wpList P ops Q rest (a.put o.dst undef) (W.alloc (.cells cells t))) : wpList P ops Q (o :: rest) a (W.alloc (.cells old t)) := by
  refine wpList_store_row hgd ty x y ho W.heap.size cells hx hy t old (heap_alloc_last W _) hi hold h1 ?_
  rw [World.setRow_alloc_new W old cells t]
  exact h
end
end
end Go.Proofs.YtkfimdpcadbcpaaGreatDoor
