import Derived.Deep.CutBlock
import Derived.Deep.RegionHeld3
import Derived.Test.YtkfimdpcadbcpaaGreatDoorA13
import Derived.Test.YtkfimdpcadbcpaaGreatDoorA06
import Derived.Test.YtkfimdpcadbcpaaGreatDoorA03
import Derived.WalkKit
import Derived.ProofKit
import Derived.Laws.Bits64
import Derived.Lib.Hide
import Derived.Test.YtkfimdpcadbcpaaGreatDoorA05
import Derived.Test.YtkfimdpcadbcpaaGreatDoorA01
import Derived.Deep.LoopGhost
import Derived.Test.YtkfimdpcadbcpaaGreatDoorA11
set_option linter.unusedSimpArgs false
set_option linter.unusedVariables false
set_option maxRecDepth 1000000
set_option maxHeartbeats 8000000
namespace Go.Proofs.YtkfimdpcadbcpaaGreatDoor
section
open Go.RowKit Go.Extern.Stop Go.Stop Go.Extern
theorem zEP {w : World} (k s h l p : Nat) (H : OfP k s h l p) (hk1 : 1 ≤ k) (hk2 : k ≤ 128) :
    Calls Tryz.prog 188 #[parV k s h l p] w fun e w' => e = .returned .nilIface ∧ Below w.heap.size w w' := by
  obtain ⟨w0, hw0, hb0, hbx⟩ := zAi w k s h l p
  have HW0 := lhd hw0
  have HB0 := lhd hb0
  have HBX := lhd hbx
  obtain ⟨c0, c1, c2, c3, c4⟩ := hbx.cells
  have HOF := lhd H
  clear hw0 hb0 hbx H
  unfold parV parC
  go_enter Tryz.func188, Tryz.ntmps188
  go_wp2_with fail
  rw [← HW0.out]
  refine (Of_in k hk1 hk2).mono ?_
  rintro e w1 ⟨s', h', l', p', rfl, hof, hb1⟩
  obtain ⟨rfl, rfl, rfl, rfl⟩ := hof.unique HOF.out
  obtain ⟨W, hW, hbW, hby⟩ := zAi w1 k s' h' l' p'
  have HW := lhd hW
  have HB1 := lhd (hb1.trans (hbW.mono hb1.size))
  have hbx2 := HBX.out.mono HB1.out
  clear c0 c1 c2 c3 c4
  obtain ⟨c0, c1, c2, c3, c4⟩ := hbx2.cells
  obtain ⟨d0, d1, d2, d3, d4⟩ := hby.cells
  clear hb1 hof hW hbW hby hbx2
  unfold parV parC
  go_upto_region 2 with fail
  rw [← HW.out]
  generalize w1.heap.size = g1 at *
  go_wp2_with fail
  refine (zL7 1 _).mono ?_
  rintro e w2 ⟨rfl, rfl⟩
  go_wp2
  go_ret
  exact ⟨rfl, HB0.out.trans (HB1.out.mono HB0.out.size)⟩
theorem zH9 {w : World} (K S H L P : Int) (hb : ¬ Good K S H L P) (hK : I64 K) :
    Calls Tryz.prog 188 #[parV K S H L P] w fun e w' => ∃ E ls, e = .returned E ∧ Chain w' 1 ls E ∧ Below w.heap.size w w' := by
  obtain ⟨w0, hw0, hb0, hbx⟩ := zAi w K S H L P
  have HW0 := lhd hw0
  have HB0 := lhd hb0
  have HBX := lhd hbx
  obtain ⟨c0, c1, c2, c3, c4⟩ := hbx.cells
  have HBAD := lhd hb
  clear hw0 hb0 hbx hb
  unfold parV parC
  by_cases hr : K < 1 ∨ 128 < K
  · go_enter Tryz.func188, Tryz.ntmps188
    go_upto_region 1 with fail
    rw [← HW0.out]
    go_wp2_with fail
    refine (zNn K hr).mono ?_
    rintro e w1 ⟨E, rfl, hc, hb1⟩
    have HB1 := lhd (HB0.out.trans (hb1.mono HB0.out.size))
    have hs1 := hb1.size
    obtain ⟨_, ls, hch⟩ := hc.resolve_left (by rintro ⟨h, -⟩; cases h)
    obtain ⟨W, hW, hbW, hby⟩ := zAi w1 0 0 0 0 0
    have HW := lhd hW
    have HBW := lhd (HB1.out.trans (hbW.mono (Nat.le_trans HB0.out.size hs1)))
    have HCH := lhd (hch.mono hbW)
    obtain ⟨u, x, rfl⟩ := hch.iface
    clear hb1 hc hch c0 c1 c2 c3 c4 hW hbW hby
    unfold parV parC
    go_upto_region 2 with fail
    rw [← HW.out]
    go_wp2_with fail
    refine (zNx 1 1 _ _ HCH.out).mono ?_
    rintro e w2 ⟨rfl, rfl⟩
    go_wp2
    go_ret
    exact ⟨_, _, rfl, HCH.out, HBW.out⟩
  · obtain ⟨k, rfl⟩ : ∃ k : Nat, K = k := ⟨K.toNat, by omega⟩
    go_enter Tryz.func188, Tryz.ntmps188
    go_upto_region 1 with fail
    rw [← HW0.out]
    go_wp2_with fail
    refine (Of_in k (by omega) (by omega)).mono ?_
    rintro e w1 ⟨s', h', l', p', rfl, hof, hb1⟩
    obtain ⟨W, hW, hbW, hby⟩ := zAi w1 k s' h' l' p'
    have HW := lhd hW
    have HB1 := lhd (hb1.trans (hbW.mono hb1.size))
    have hbx2 := HBX.out.mono HB1.out
    clear c0 c1 c2 c3 c4
    obtain ⟨c0, c1, c2, c3, c4⟩ := hbx2.cells
    obtain ⟨d0, d1, d2, d3, d4⟩ := hby.cells
    have HNE : Hid (¬ (S = s' ∧ H = h' ∧ L = l' ∧ P = p')) := lhd fun ⟨e1, e2, e3, e4⟩ => HBAD.out ⟨k, s', h', l', p', rfl, e1, e2, e3, e4, by omega, by omega, hof⟩
    clear hb1 hof hW hbW hby hbx2
    unfold parV parC
    go_upto_region 2 with fail
    rw [← HW.out]
    generalize w1.heap.size = g1 at *
    go_wp2_with fail
    refine (zL7 1 _).mono ?_
    rintro e w2 ⟨rfl, rfl⟩
    go_wp2
    all_goals first
      | exact (HNE.out ⟨by assumption, by assumption, by assumption, by assumption⟩).elim
      | (go_ret; exact ⟨_, [], rfl, .leaf, HB0.out.trans (HB1.out.mono HB0.out.size)⟩)
end

section
open Go.RowKit Go.Extern.Stop Go.Stop Go.Extern
theorem zCB (n : Nat) : IntKind.u32.wrap (n : Int) = ((n % 4294967296 : Nat) : Int) := by rw [IntKind.wrap_u32]; omega
theorem zCD (a b : Nat) (ha : a < 4294967296) (hb : b < 4294967296) : bits .xor .u32 (a : Int) (b : Int) = ((a ^^^ b : Nat) : Int) := by
  have hx : a ^^^ b < 2 ^ 32 := Nat.xor_lt_two_pow (by omega) (by omega)
  have h1 : (BitVec.ofInt 32 (a : Int)).toNat = a := by
    rw [BitVec.ofInt_natCast, BitVec.toNat_ofNat]; exact Nat.mod_eq_of_lt (by omega)
  have h2 : (BitVec.ofInt 32 (b : Int)).toNat = b := by
    rw [BitVec.ofInt_natCast, BitVec.toNat_ofNat]; exact Nat.mod_eq_of_lt (by omega)
  show IntKind.u32.wrap ((BitVec.ofInt 32 (a : Int) ^^^ BitVec.ofInt 32 (b : Int)).toNat : Int) = _
  rw [BitVec.toNat_xor, h1, h2, IntKind.wrap_u32]
  omega
theorem zMp (h k : Nat) : ((h : Int) / ((2 ^ k : Nat) : Int)) = ((h >>> k : Nat) : Int) := by
  rw [Nat.shiftRight_eq_div_pow, Int.natCast_ediv]
theorem zNN (h k b : Nat) (hh : h < b) : h >>> k < b := by
  rw [Nat.shiftRight_eq_div_pow]; exact Nat.lt_of_le_of_lt (Nat.div_le_self _ _) hh
theorem zEx (h k : Nat) (hh : h < 4294967296) : bits .xor .u32 (h : Int) ((h : Int) / ((2 ^ k : Nat) : Int)) = ((foldN h k : Nat) : Int) := by
  rw [zMp]; exact zCD _ _ hh (zNN h k _ hh)
theorem zG8 {w : World} (x s : Nat) : Calls Tryz.prog 190 #[.int .u32 (x : Int), .int .u32 (s : Int)] w fun e w' => e = .returned (.int .u32 ((mixN x s : Nat) : Int)) ∧ w = w' := by
  obtain ⟨a, ha⟩ : ∃ a, a = x * 2654435761 % 4294967296 := ⟨_, rfl⟩
  obtain ⟨b, hb⟩ : ∃ b, b = (x * 2654435761 + s) % 4294967296 := ⟨_, rfl⟩
  obtain ⟨c, hc⟩ : ∃ c, c = foldN b 16 := ⟨_, rfl⟩
  obtain ⟨d, hd⟩ : ∃ d, d = c * 2246822507 % 4294967296 := ⟨_, rfl⟩
  obtain ⟨f, hf⟩ : ∃ f, f = foldN d 13 := ⟨_, rfl⟩
  obtain ⟨g, hg⟩ : ∃ g, g = f * 3266489909 % 4294967296 := ⟨_, rfl⟩
  obtain ⟨h, hh⟩ : ∃ h, h = foldN g 16 := ⟨_, rfl⟩
  have hbl : b < 4294967296 := by omega
  have hdl : d < 4294967296 := by omega
  have hgl : g < 4294967296 := by omega
  have e1 : IntKind.u32.wrap ((x : Int) * 2654435761) = (a : Int) := by rw [IntKind.wrap_u32]; omega
  have e2 : IntKind.u32.wrap ((a : Int) + (s : Int)) = (b : Int) := by rw [IntKind.wrap_u32]; omega
  have e3 : bits .xor .u32 (b : Int) ((b : Int) / 65536) = (c : Int) := by rw [hc]; exact zEx b 16 hbl
  have e4 : IntKind.u32.wrap ((c : Int) * 2246822507) = (d : Int) := by rw [IntKind.wrap_u32]; omega
  have e5 : bits .xor .u32 (d : Int) ((d : Int) / 8192) = (f : Int) := by rw [hf]; exact zEx d 13 hdl
  have e6 : IntKind.u32.wrap ((f : Int) * 3266489909) = (g : Int) := by rw [IntKind.wrap_u32]; omega
  have e7 : bits .xor .u32 (g : Int) ((g : Int) / 65536) = (h : Int) := by rw [hh]; exact zEx g 16 hgl
  have hm : mixN x s = h := by unfold mixN; rw [← hb, ← hc, ← hd, ← hf, ← hg, ← hh]
  rw [hm]
  clear ha hb hc hd hf hg hh hm
  go_enter Tryz.func190, Tryz.ntmps190
  go_wp2
  go_ret
  exact ⟨rfl, rfl⟩
end

section
open Go.RowKit Go.Extern.Stop Go.Stop Go.Extern
theorem zK8 {w : World} (M : Nat) (h1 : 1 ≤ M) (h2 : M ≤ 1048576) : Calls Tryz.prog 239 #[.int .i64 (M : Int)] w fun e w' => e = .returned (.bool true) ∧ w = w' := by
  have hI1 : (1 : Int) ≤ (M : Int) := by omega
  have hI2 : (M : Int) ≤ 1048576 := by omega
  go_enter Tryz.func239, Tryz.ntmps239
  go_wp2
  go_ret
  exact ⟨rfl, rfl⟩
theorem zHM {w : World} (x s M : Nat) (h1 : 1 ≤ M) (h2 : M ≤ 1048576) : Calls Tryz.prog 240 #[.int .u32 (x : Int), .int .u32 (s : Int), .int .i64 (M : Int)] w fun e w' => e = .returned (.int .i64 ((mixN x s % M : Nat) : Int)) ∧ w = w' := by
  have hlt := zMu x s
  have e1 : IntKind.u32.wrap (M : Int) = (M : Int) := by rw [IntKind.wrap_u32]; omega
  have e2 : ((mixN x s : Nat) : Int).tmod (M : Int) = ((mixN x s % M : Nat) : Int) := by
    rw [Int.tmod_eq_emod_of_nonneg (Int.natCast_nonneg _), Int.natCast_emod]
  have hr : mixN x s % M < 1048576 := by have := Nat.mod_lt (mixN x s) (y := M) (by omega); omega
  have e3 : wrap64 ((mixN x s % M : Nat) : Int) = ((mixN x s % M : Nat) : Int) := by unfold wrap64; omega
  have hM0 : (M : Int) ≠ 0 := by omega
  have hM1 : ((M : Int) == 0) = false := by simpa using hM0
  generalize mixN x s % M = r at *
  obtain ⟨y, hy⟩ : ∃ y, mixN x s = y := ⟨_, rfl⟩
  rw [hy] at hlt e2
  have HY := lhd hy
  clear hy
  go_enter Tryz.func240, Tryz.ntmps240
  go_wp2_with fail
  refine (zG8 x s).mono ?_
  rintro e w1 ⟨rfl, rfl⟩
  rw [HY.out]
  go_wp2
  go_ret
  exact ⟨rfl, rfl⟩
theorem zEm {w : World} (x s M : Nat) (h1 : 1 ≤ M) (h2 : M ≤ 1048576) : Calls Tryz.prog 217 #[.int .u32 (x : Int), .int .u32 (s : Int), .int .i64 (M : Int)] w fun e w' => e = .returned (.tuple #[.int .i64 ((mixN x s % M : Nat) : Int), .nilIface]) ∧ w = w' := by
  go_enter Tryz.func217, Tryz.ntmps217
  go_wp2_with fail
  refine (zK8 M h1 h2).mono ?_
  rintro e w1 ⟨rfl, rfl⟩
  go_wp2_with fail
  refine (zHM x s M h1 h2).mono ?_
  rintro e w1 ⟨rfl, rfl⟩
  go_wp2
  go_ret2
  exact ⟨rfl, rfl⟩
end

section
open Go.RowKit Go.Extern.Stop Go.Stop Go.Extern
def TrioBox (W : World) (g : Nat) (x y z : Int) : Prop := W.heap[g]? = some (.cells #[.int .i64 x, .int .i64 y, .int .i64 z] 298 (0, 0))
theorem TrioBox.cells {W : World} {g : Nat} {x y z : Int} (b : TrioBox W g x y z) :
    W.cell? ⟨g, 0, none⟩ = some (.int .i64 x) ∧ W.cell? ⟨g, 1, none⟩ = some (.int .i64 y) ∧ W.cell? ⟨g, 2, none⟩ = some (.int .i64 z) :=
  ⟨zAa b rfl, zAa b rfl, zAa b rfl⟩
theorem TrioBox.free {W : World} {g : Nat} {x y z : Int} (b : TrioBox W g x y z) :
    W.frozen? ⟨g, 0, none⟩ = false ∧ W.frozen? ⟨g, 1, none⟩ = false ∧ W.frozen? ⟨g, 2, none⟩ = false :=
  ⟨zAb b, zAb b, zAb b⟩
theorem TrioBox.set0 {W : World} {g : Nat} {x y z : Int} (b : TrioBox W g x y z) (u : Int) : TrioBox (W.setCell ⟨g, 0, none⟩ (.int .i64 u)) g u y z := zAc b
theorem TrioBox.set1 {W : World} {g : Nat} {x y z : Int} (b : TrioBox W g x y z) (u : Int) : TrioBox (W.setCell ⟨g, 1, none⟩ (.int .i64 u)) g x u z := zAc b
theorem TrioBox.set2 {W : World} {g : Nat} {x y z : Int} (b : TrioBox W g x y z) (u : Int) : TrioBox (W.setCell ⟨g, 2, none⟩ (.int .i64 u)) g x y u := zAc b
theorem zNM (x y z : Value) (w : World) : (Instr.index 298 (.agg #[x, y, z]) (.int .i64 0)).run Tryz.prog w = .ok x w := by
  simp [Instr.index, run_underlying Tryz.underlying298, asIntOf, go_sem]
theorem zNG (x y z : Value) (w : World) : (Instr.index 298 (.agg #[x, y, z]) (.int .i64 1)).run Tryz.prog w = .ok y w := by
  simp [Instr.index, run_underlying Tryz.underlying298, asIntOf, go_sem]
theorem zN0 (x y z : Value) (w : World) : (Instr.index 298 (.agg #[x, y, z]) (.int .i64 2)).run Tryz.prog w = .ok z w := by
  simp [Instr.index, run_underlying Tryz.underlying298, asIntOf, go_sem]
theorem zMl {w : World} (k s h l p y : Nat) (hl1 : 1 ≤ l) (hl2 : l ≤ 400) (hp1 : 2 ≤ p) (hp2 : p ≤ 1000) (hT : DgTab w) :
    Calls Tryz.prog 189 #[parV k s h l p, .int .u32 (y : Int)] w fun e w' => e = .returned (.tuple #[tripV (trD l y : Nat) (trS p y : Nat) (trA p y : Nat), .nilIface]) ∧ Below w.heap.size w w' := by
  obtain ⟨w0, hw0, hb0, hbx⟩ := zAi w k s h l p
  obtain ⟨w1, hw1, hb1, hbt⟩ := zAO w0 0 0 0
  obtain ⟨w2, hw2⟩ : ∃ w2, w2 = w1.alloc (.cells #[.int .i64 0, .int .i64 0, .int .i64 0] 298) := ⟨_, rfl⟩
  have hbq : TrioBox w2 w1.heap.size 0 0 0 := by rw [hw2]; exact heap_alloc_new w1 _
  have hs0 : w0.heap.size = w.heap.size + 1 := by rw [hw0]; simp
  have hs1 : w1.heap.size = w.heap.size + 2 := by rw [hw1]; simp; omega
  have hb2 : Below w.heap.size w w2 := by rw [hw2]; exact (hb0.trans (hb1.mono hb0.size)).alloc (by omega) _
  have hb12 : Below w1.heap.size w1 w2 := by rw [hw2]; exact (Below.refl _ _).alloc (Nat.le_refl _) _
  have HW0 := lhd hw0
  have HW1 := lhd hw1
  have HW2 := lhd hw2
  have HB2 := lhd hb2
  have HT := lhd hT
  have hbx2 := (hbx.mono hb1).mono hb12
  have hbt2 := hbt.mono hb12
  rw [hs0] at hbt2
  rw [hs1] at hbq
  obtain ⟨c0, c1, c2, c3, c4⟩ := hbx2.cells
  have HBX := lhd hbx2
  have HBT := lhd hbt2
  have HBQ := lhd hbq
  have HS0 := lhd hs0
  have HS1 := lhd hs1
  clear hw0 hw1 hw2 hb0 hb1 hb2 hb12 hbx hbt hbx2 hbt2 hbq hs0 hs1 hT
  unfold parV parC
  have HB1 : Hid (∀ V, Calls Tryz.prog 217 #[.int .u32 (y : Int), .int .u32 1, .int .i64 ((p : Int) - 1)] V fun e w' => e = .returned (.tuple #[.int .i64 ((mixN y 1 % (p - 1) : Nat) : Int), .nilIface]) ∧ V = w') := lhd fun V => by
    have := zEm (w := V) y 1 (p - 1) (by omega) (by omega)
    rwa [show ((p - 1 : Nat) : Int) = (p : Int) - 1 by omega] at this
  go_enter Tryz.func189, Tryz.ntmps189
  go_upto_region 2 with fail
  rw [← HW0.out, ← HW1.out, ← HW2.out]
  go_wp2_with fail
  have I0 := zNM (.int .i64 1048576) (.int .i64 ((p : Int) - 1)) (.int .i64 (p : Int))
  have I1 := zNG (.int .i64 1048576) (.int .i64 ((p : Int) - 1)) (.int .i64 (p : Int))
  have I2 := zN0 (.int .i64 1048576) (.int .i64 ((p : Int) - 1)) (.int .i64 (p : Int))
  go_loopw [5, 19] (fun E i wr => E = .nilIface ∧ ∃ j : Nat, (j = 0 ∧ i = .int .i64 0 ∨ j = 1 ∧ i = .int .i64 1 ∨ j = 2 ∧ i = .int .i64 2 ∨ j = 3 ∧ i = .int .i64 3) ∧ Below w.heap.size w wr ∧ ParBox wr w.heap.size k s h l p ∧ TripBox wr (w.heap.size + 1) 0 0 0 ∧ ∃ a b c : Nat, TrioBox wr (w.heap.size + 1 + 1) a b c ∧ (0 < j → a = mixN y 0 % 1048576) ∧ (1 < j → b = mixN y 1 % (p - 1)) ∧ (2 < j → c = mixN y 2 % p)) (fun _ i _ => 3 - (intOf i).toNat)
  case atStart => exact ⟨rfl, 0, .inl ⟨rfl, rfl⟩, HB2.out, HBX.out, HBT.out, 0, 0, 0, HBQ.out, fun h => absurd h (by omega), fun h => absurd h (by omega), fun h => absurd h (by omega)⟩
  case round =>
    obtain ⟨rfl, j, hj, hbel, hx, ht, a, b, c, hq, ha, hb, hc⟩ := hrel
    have HB := lhd hbel
    have HX := lhd hx
    have HTB := lhd ht
    have HQ := lhd hq
    have HA := lhd ha
    have HBB := lhd hb
    have HC := lhd hc
    obtain ⟨q0, q1, q2⟩ := hq.cells
    obtain ⟨z0, z1, z2⟩ := hq.free
    clear hbel hx ht hq ha hb hc c0 c1 c2 c3 c4
    rcases hj with ⟨rfl, rfl⟩ | ⟨rfl, rfl⟩ | ⟨rfl, rfl⟩ | ⟨rfl, rfl⟩
    · go_wp2_with fail
      refine (zEm y 0 1048576 (by decide) (by decide)).mono ?_
      rintro e w3 ⟨rfl, rfl⟩
      go_wp2
      go_roundw
      case rel =>
        refine ⟨rfl, 1, .inr (.inl ⟨rfl, rfl⟩), HB.out.setCell (p := ⟨w.heap.size + 1 + 1, 0, none⟩) (by show _ ≤ w.heap.size + 1 + 1; omega) _, HX.out.set (by omega), HTB.out.set (by omega), _, b, c, HQ.out.set0 _, fun _ => rfl, fun h => absurd h (by omega), fun h => absurd h (by omega)⟩
      case measure => simp [intOf]
    · go_wp2_with fail
      refine (HB1.out _).mono ?_
      rintro e w3 ⟨rfl, rfl⟩
      go_wp2
      go_roundw
      case rel =>
        refine ⟨rfl, 2, .inr (.inr (.inl ⟨rfl, rfl⟩)), HB.out.setCell (p := ⟨w.heap.size + 1 + 1, 1, none⟩) (by show _ ≤ w.heap.size + 1 + 1; omega) _, HX.out.set (by omega), HTB.out.set (by omega), a, _, c, HQ.out.set1 _, fun _ => HA.out (by omega), fun _ => rfl, fun h => absurd h (by omega)⟩
      case measure => simp [intOf]
    · go_wp2_with fail
      refine (zEm y 2 p (by omega) (by omega)).mono ?_
      rintro e w3 ⟨rfl, rfl⟩
      go_wp2
      go_roundw
      case rel =>
        refine ⟨rfl, 3, .inr (.inr (.inr ⟨rfl, rfl⟩)), HB.out.setCell (p := ⟨w.heap.size + 1 + 1, 2, none⟩) (by show _ ≤ w.heap.size + 1 + 1; omega) _, HX.out.set (by omega), HTB.out.set (by omega), a, b, _, HQ.out.set2 _, fun _ => HA.out (by omega), fun _ => HBB.out (by omega), fun _ => rfl⟩
      case measure => simp [intOf]
    · have ha : a < 1048576 := by rw [HA.out (by omega)]; exact Nat.mod_lt _ (by decide)
      have hb : b < 1000 := by rw [HBB.out (by omega)]; exact Nat.lt_of_lt_of_le (Nat.mod_lt _ (by omega)) (by omega)
      have hc : c < 1000 := by rw [HC.out (by omega)]; exact Nat.lt_of_lt_of_le (Nat.mod_lt _ (by omega)) (by omega)
      obtain ⟨d0, d1⟩ := zKb (a : Int)
      obtain ⟨D, hD⟩ : ∃ D : Nat, dgOf (a : Int) = D := ⟨(dgOf (a : Int)).toNat, by omega⟩
      have hres : tripV (trD l y : Nat) (trS p y : Nat) (trA p y : Nat) = tripV (min D l : Nat) ((1 + b : Nat) : Int) (c : Int) := by
        unfold trD trS trA
        rw [← HA.out (by omega), ← HBB.out (by omega), ← HC.out (by omega), hD]
        rfl
      have HRES := lhd hres
      have HD := lhd hD
      have HTT := lhd (PairsAt.mono HT.out HB.out)
      rw [hD] at d0 d1
      obtain ⟨c0, c1, c2, c3, c4⟩ := HX.out.cells
      obtain ⟨t0, t1, t2⟩ := HTB.out.cells
      obtain ⟨y0, y1, y2⟩ := HTB.out.free
      clear hres hD
      go_wp2_with fail
      refine (zMZ _ (by omega) (by omega) HTT.out).mono ?_
      rintro e w3 ⟨rfl, rfl⟩
      rw [HD.out]
      rcases Nat.le_total D l with hm | hm
      · have hmi : (D : Int) ≤ (l : Int) := by omega
        go_wp2
        refine bodyPost_ret (zAg rfl _ _ (w.heap.size + 1) 249 _ (0, 0) _ rfl (HTB.out.done _ _ _) Tryz.underlying249 rfl (by kernel_rfl)) rfl ?_
        refine ⟨?_, TripBox.below HB.out (by omega) _ _ _⟩
        rw [HRES.out, Nat.min_eq_left hm]
        first | rfl | (rw [Int.min_eq_left hmi]; rfl)
      · rcases Nat.lt_or_ge l D with hlt | hge
        · have hmi : ¬ (D : Int) ≤ (l : Int) := by omega
          have hmj : ¬ D ≤ l := by omega
          go_wp2
          refine bodyPost_ret (zAg rfl _ _ (w.heap.size + 1) 249 _ (0, 0) _ rfl (HTB.out.done _ _ _) Tryz.underlying249 rfl (by kernel_rfl)) rfl ?_
          refine ⟨?_, TripBox.below HB.out (by omega) _ _ _⟩
          rw [HRES.out, Nat.min_eq_right hm]
          first | rfl | (rw [Int.min_eq_right (by omega)]; rfl)
        · obtain rfl : D = l := by omega
          go_wp2
          refine bodyPost_ret (zAg rfl _ _ (w.heap.size + 1) 249 _ (0, 0) _ rfl (HTB.out.done _ _ _) Tryz.underlying249 rfl (by kernel_rfl)) rfl ?_
          refine ⟨?_, TripBox.below HB.out (by omega) _ _ _⟩
          rw [HRES.out, Nat.min_self]
          rfl
end

section
open Go.RowKit Go.Extern.Stop Go.Stop Go.Extern
theorem zJV {w : World} (k s h l p seed esi : Nat) (H : OfP k s h l p) (hk1 : 1 ≤ k) (hk2 : k ≤ 128) (hs : seed < 65536) (he : esi < 65536) (hT : DgTab w) :
    Calls Tryz.prog 156 #[parV k s h l p, .int .i64 (seed : Int), .int .i64 (esi : Int)] w fun e w' => e = .returned (.tuple #[tripV (trD l (mixN esi seed) : Nat) (trS p (mixN esi seed) : Nat) (trA p (mixN esi seed) : Nat), .nilIface]) ∧ Below w.heap.size w w' := by
  obtain ⟨b1, b2, b3, b4, b5, b6, b7⟩ := H.bounds hk1 hk2
  have hl1 : 1 ≤ l := by have := H.2.2.1; omega
  have hp2 : 2 ≤ p := H.2.2.2.two
  obtain ⟨w0, hw0, hb0, hbx⟩ := zAi w k s h l p
  obtain ⟨w1, hw1, hb1, hbt⟩ := zAO w0 0 0 0
  have hs0 : w0.heap.size = w.heap.size + 1 := by rw [hw0]; simp
  have HW0 := lhd hw0
  have HW1 := lhd hw1
  have HB1 := lhd (hb0.trans (hb1.mono hb0.size))
  have HT := lhd hT
  rw [hs0] at hbt
  have HBX := lhd (hbx.mono hb1)
  have HBT := lhd hbt
  obtain ⟨c0, c1, c2, c3, c4⟩ := HBX.out.cells
  have HR : Hid (∀ w, Calls Tryz.prog 188 #[.agg #[.int .i64 (k : Int), .int .i64 (s : Int), .int .i64 (h : Int), .int .i64 (l : Int), .int .i64 (p : Int)]] w fun e w' => e = .returned .nilIface ∧ Below w.heap.size w w') := lhd fun w => zEP k s h l p H hk1 hk2
  obtain ⟨y, hy⟩ : ∃ y, mixN esi seed = y := ⟨_, rfl⟩
  rw [hy]
  have HM : Hid (∀ V, Calls Tryz.prog 190 #[.int .u32 (IntKind.u32.wrap (esi : Int)), .int .u32 (IntKind.u32.wrap (seed : Int))] V fun e w' => e = .returned (.int .u32 (y : Int)) ∧ V = w') := lhd fun V => by
    have := zG8 (w := V) esi seed
    rw [zCB, zCB, Nat.mod_eq_of_lt (show esi < 4294967296 by omega), Nat.mod_eq_of_lt (show seed < 4294967296 by omega)]
    rwa [hy] at this
  have d1 : decide ((seed : Int) < 0) = false := decide_eq_false (by omega)
  have d2 : decide ((65536 : Int) ≤ (seed : Int)) = false := decide_eq_false (by omega)
  have d3 : decide ((esi : Int) < 0) = false := decide_eq_false (by omega)
  have d4 : decide ((65536 : Int) ≤ (esi : Int)) = false := decide_eq_false (by omega)
  have d5 : decide (65536 ≤ seed) = false := decide_eq_false (by omega)
  have d6 : decide (65536 ≤ esi) = false := decide_eq_false (by omega)
  obtain ⟨D, hD⟩ : ∃ D, trD l y = D := ⟨_, rfl⟩
  obtain ⟨S, hS⟩ : ∃ S, trS p y = S := ⟨_, rfl⟩
  obtain ⟨A, hA⟩ : ∃ A, trA p y = A := ⟨_, rfl⟩
  rw [hD, hS, hA]
  have HDR : Hid (∀ V, DgTab V → Calls Tryz.prog 189 #[.agg #[.int .i64 (k : Int), .int .i64 (s : Int), .int .i64 (h : Int), .int .i64 (l : Int), .int .i64 (p : Int)], .int .u32 (y : Int)] V fun e w' => e = .returned (.tuple #[.agg #[.int .i64 (D : Int), .int .i64 (S : Int), .int .i64 (A : Int)], .nilIface]) ∧ Below V.heap.size V w') := lhd fun V hV => by
    have := zMl (w := V) k s h l p y hl1 (by omega) hp2 (by omega) hV
    rwa [hD, hS, hA] at this
  clear hw0 hw1 hb0 hb1 hbx hbt hT hs0 H hy hD hS hA b1 b2 b3 b4 b5 b6 b7 hl1 hp2
  unfold parV parC tripV tripC
  go_enter Tryz.func156, Tryz.ntmps156
  go_upto_region 1 with fail
  rw [← HW0.out, ← HW1.out]
  go_wp2_with fail
  refine (HR.out _).mono ?_
  rintro e w2 ⟨rfl, hb2⟩
  have HB2 := lhd (HB1.out.trans (hb2.mono HB1.out.size))
  have HBX2 := lhd (HBX.out.mono hb2)
  have HBT2 := lhd (HBT.out.mono hb2)
  have HT2 := lhd (PairsAt.mono HT.out HB2.out)
  clear hb2 c0 c1 c2 c3 c4
  obtain ⟨c0, c1, c2, c3, c4⟩ := HBX2.out.cells
  obtain ⟨t0, t1, t2⟩ := HBT2.out.cells
  obtain ⟨y0, y1, y2⟩ := HBT2.out.free
  go_upto_region 6 with fail
  have HSAT : Hid (∀ V, Below w2.heap.size w2 V → V.cell? ⟨w.heap.size, 0, none⟩ = some (.int .i64 (k : Int)) ∧ V.cell? ⟨w.heap.size, 1, none⟩ = some (.int .i64 (s : Int)) ∧ V.cell? ⟨w.heap.size, 2, none⟩ = some (.int .i64 (h : Int)) ∧ V.cell? ⟨w.heap.size, 3, none⟩ = some (.int .i64 (l : Int)) ∧ V.cell? ⟨w.heap.size, 4, none⟩ = some (.int .i64 (p : Int))) := lhd fun V hV => (HBX2.out.mono hV).cells
  have HBD : Hid (Below w2.heap.size w2 w2.drew) := lhd (Below.refl _ _).drew
  have HSD := lhd (HSAT.out _ HBD.out)
  obtain ⟨u2, hu2, hbu2, hut2⟩ := zAO w2 0 0 0
  have HU2 := lhd hu2
  have HBDA : Hid (Below w2.heap.size w2 u2.drew) := lhd hbu2.drew
  have HBTA : Hid (TripBox u2.drew w2.heap.size 0 0 0) := lhd hut2
  clear hu2 hbu2 hut2
  go_region_held3 (fun w' => w'.cell? ⟨w.heap.size, 0, none⟩ = some (.int .i64 (k : Int)) ∧ w'.cell? ⟨w.heap.size, 1, none⟩ = some (.int .i64 (s : Int)) ∧ w'.cell? ⟨w.heap.size, 2, none⟩ = some (.int .i64 (h : Int)) ∧ w'.cell? ⟨w.heap.size, 3, none⟩ = some (.int .i64 (l : Int)) ∧ w'.cell? ⟨w.heap.size, 4, none⟩ = some (.int .i64 (p : Int)))
    (first | exact HSD.out | exact HSAT.out _ HB3.out | exact HSAT.out _ (HB3.out.alloc HB3.out.size _) | exact HSAT.out _ (TripBox.below HB3.out (Nat.le_refl _) _ _ _) | go_keep)
    (first
    | (go_at_call 190; (with_reducible refine (HM.out _).mono ?_); rintro e w3 ⟨rfl, rfl⟩)
    | (go_at_call 189; (with_reducible refine (HDR.out _ (PairsAt.mono HT2.out HBD.out)).mono ?_); rintro e w3 ⟨rfl, hb3⟩; have HB3 := lhd (HBD.out.trans (hb3.mono HBD.out.size)); clear hb3)
    | (rw [← HU2.out]; go_at_call 189; (with_reducible refine (HDR.out _ (PairsAt.mono HT2.out HBDA.out)).mono ?_); rintro e w3 ⟨rfl, hb3⟩; have HB3 := lhd (HBDA.out.trans (hb3.mono HBDA.out.size)); have hbt3 := HBTA.out.mono hb3; obtain ⟨g0, g1, g2⟩ := hbt3.cells; obtain ⟨i0, i1, i2⟩ := hbt3.free; have HBT3 := lhd hbt3; clear hb3 hbt3))
  all_goals first
    | (obtain ⟨V, hV, hbV, htV, hrV⟩ : ∃ V, V = w3.alloc (.cells #[.int .i64 (D : Int), .int .i64 (S : Int), .int .i64 (A : Int)] 249) ∧ Below w.heap.size w V ∧ TripBox V w3.heap.size D S A ∧ TripBox V (w.heap.size + 1) 0 0 0 := ⟨_, rfl, (HB2.out.trans (HB3.out.mono HB2.out.size)).alloc (Nat.le_trans HB2.out.size HB3.out.size) _, heap_alloc_new w3 _, (HBT2.out.mono HB3.out).mono ((Below.refl _ _).alloc (Nat.le_refl _) _)⟩
       rw [← hV]
       have HVB := lhd hbV
       have HVT := lhd htV
       have HVR := lhd hrV
       obtain ⟨v0, v1, v2⟩ := htV.cells
       obtain ⟨r0, r1, r2⟩ := hrV.cells
       obtain ⟨f0, f1, f2⟩ := hrV.free
       have HST := lhd (((htV.set (b := w.heap.size + 1) (j := 0) (u := .int .i64 (D : Int)) (by have h1 := HBT2.out.lt; have h2 := HB3.out.size; omega)).set (b := w.heap.size + 1) (j := 1) (u := .int .i64 (S : Int)) (by have h1 := HBT2.out.lt; have h2 := HB3.out.size; omega)).set (b := w.heap.size + 1) (j := 2) (u := .int .i64 (A : Int)) (by have h1 := HBT2.out.lt; have h2 := HB3.out.size; omega)).cells
       clear hV hbV htV hrV  c0 c1 c2 c3 c4 t0 t1 t2 y0 y1 y2
       go_upto_region 7 with fail
       go_region_held3 (fun w' => w'.cell? ⟨w3.heap.size, 0, none⟩ = some (.int .i64 (D : Int)) ∧ w'.cell? ⟨w3.heap.size, 1, none⟩ = some (.int .i64 (S : Int)) ∧ w'.cell? ⟨w3.heap.size, 2, none⟩ = some (.int .i64 (A : Int)))
         (first | exact ⟨v0, v1, v2⟩ | exact HST.out | go_keep)
         (first
         | (go_at_call 31; (with_reducible refine (zCe _ _).mono ?_); rintro e w4 ⟨rfl, rfl⟩))
       all_goals
         go_wp2
         refine bodyPost_ret (zAg rfl _ _ (w.heap.size + 1) 249 _ (0, 0) _ rfl (HVR.out.done _ _ _) Tryz.underlying249 rfl (by kernel_rfl)) rfl ?_
         exact ⟨rfl, (TripBox.below HVB.out (by omega) _ _ _).drew⟩)
    | (obtain ⟨V, hV, hbV, htV, hrV⟩ : ∃ V, V = ((w3.setCell ⟨w2.heap.size, 0, none⟩ (.int .i64 (D : Int))).setCell ⟨w2.heap.size, 1, none⟩ (.int .i64 (S : Int))).setCell ⟨w2.heap.size, 2, none⟩ (.int .i64 (A : Int)) ∧ Below w.heap.size w V ∧ TripBox V w2.heap.size D S A ∧ TripBox V (w.heap.size + 1) 0 0 0 := ⟨_, rfl, TripBox.below (HB2.out.trans (HB3.out.mono HB2.out.size)) HB2.out.size _ _ _, HBT3.out.done _ _ _, (((HBT2.out.mono HB3.out).set (Nat.ne_of_lt HBT2.out.lt)).set (Nat.ne_of_lt HBT2.out.lt)).set (Nat.ne_of_lt HBT2.out.lt)⟩
       rw [← hV]
       have HVB := lhd hbV
       have HVT := lhd htV
       have HVR := lhd hrV
       obtain ⟨v0, v1, v2⟩ := htV.cells
       obtain ⟨r0, r1, r2⟩ := hrV.cells
       obtain ⟨f0, f1, f2⟩ := hrV.free
       have HST := lhd (((htV.set (b := w.heap.size + 1) (j := 0) (u := .int .i64 (D : Int)) (by have h1 := HBT2.out.lt; omega)).set (b := w.heap.size + 1) (j := 1) (u := .int .i64 (S : Int)) (by have h1 := HBT2.out.lt; omega)).set (b := w.heap.size + 1) (j := 2) (u := .int .i64 (A : Int)) (by have h1 := HBT2.out.lt; omega)).cells
       clear hV hbV htV hrV  c0 c1 c2 c3 c4 t0 t1 t2 y0 y1 y2
       go_upto_region 7 with fail
       go_region_held3 (fun w' => w'.cell? ⟨w2.heap.size, 0, none⟩ = some (.int .i64 (D : Int)) ∧ w'.cell? ⟨w2.heap.size, 1, none⟩ = some (.int .i64 (S : Int)) ∧ w'.cell? ⟨w2.heap.size, 2, none⟩ = some (.int .i64 (A : Int)))
         (first | exact ⟨v0, v1, v2⟩ | exact HST.out | go_keep)
         (first
         | (go_at_call 31; (with_reducible refine (zCe _ _).mono ?_); rintro e w4 ⟨rfl, rfl⟩))
       all_goals
         go_wp2
         refine bodyPost_ret (zAg rfl _ _ (w.heap.size + 1) 249 _ (0, 0) _ rfl (HVR.out.done _ _ _) Tryz.underlying249 rfl (by kernel_rfl)) rfl ?_
         exact ⟨rfl, (TripBox.below HVB.out (by omega) _ _ _).drew⟩)
end

section
open Go.RowKit Go.Extern.Stop Go.Stop Go.Extern
def nameLTrip : ByteArray := ⟨#[108, 116, 114, 111, 119, 46, 84, 114, 105, 112]⟩
theorem zNb {w : World} (K S H L P seed esi : Int) (hK : I64 K) (hbad : ¬ Good K S H L P ∨ seed < 0 ∨ 65536 ≤ seed ∨ esi < 0 ∨ 65536 ≤ esi) :
    Calls Tryz.prog 156 #[parV K S H L P, .int .i64 seed, .int .i64 esi] w (NoSays 1 nameLTrip (tripV 0 0 0) w) := by
  obtain ⟨w0, hw0, hb0, hbx⟩ := zAi w K S H L P
  obtain ⟨w1, hw1, hb1, hbt⟩ := zAO w0 0 0 0
  have hs0 : w0.heap.size = w.heap.size + 1 := by rw [hw0]; simp
  have HW0 := lhd hw0
  have HW1 := lhd hw1
  have HB1 := lhd (hb0.trans (hb1.mono hb0.size))
  rw [hs0] at hbt
  have HBX := lhd (hbx.mono hb1)
  have HBT := lhd hbt
  obtain ⟨c0, c1, c2, c3, c4⟩ := HBX.out.cells
  clear hw0 hw1 hb0 hb1 hbx hbt hs0
  by_cases hgood : Good K S H L P
  · obtain ⟨k, s, h, l, p, rfl, rfl, rfl, rfl, rfl, hk1, hk2, hof⟩ := hgood
    have hout : seed < 0 ∨ 65536 ≤ seed ∨ esi < 0 ∨ 65536 ≤ esi := hbad.resolve_left fun hn => hn ⟨k, s, h, l, p, rfl, rfl, rfl, rfl, rfl, hk1, hk2, hof⟩
    have HD : Hid (decide (seed < 0) = true ∨ (decide (seed < 0) = false ∧ decide (65536 ≤ seed) = true) ∨ (decide (seed < 0) = false ∧ decide (65536 ≤ seed) = false ∧ decide (esi < 0) = true) ∨ (decide (seed < 0) = false ∧ decide (65536 ≤ seed) = false ∧ decide (esi < 0) = false ∧ decide (65536 ≤ esi) = true)) := lhd (by
      simp only [decide_eq_true_eq, decide_eq_false_iff_not]
      omega)
    have HR : Hid (∀ w, Calls Tryz.prog 188 #[.agg #[.int .i64 (k : Int), .int .i64 (s : Int), .int .i64 (h : Int), .int .i64 (l : Int), .int .i64 (p : Int)]] w fun e w' => e = .returned .nilIface ∧ Below w.heap.size w w') := lhd fun w => zEP k s h l p hof hk1 hk2
    clear hout hbad hof hK
    unfold parV parC
    rcases HD.out with d1 | ⟨d1, d2⟩ | ⟨d1, d2, d3⟩ | ⟨d1, d2, d3, d4⟩
    all_goals
      go_enter Tryz.func156, Tryz.ntmps156
      go_upto_region 1 with fail
      rw [← HW0.out, ← HW1.out]
      go_wp2_with fail
      refine (HR.out _).mono ?_
      rintro e w2 ⟨rfl, hb2⟩
      have HB2 := lhd (HB1.out.trans (hb2.mono HB1.out.size))
      have HBT2 := lhd (HBT.out.mono hb2)
      clear hb2 c0 c1 c2 c3 c4
      go_wp2_with fail
      refine (zAH nameLTrip 1 (by decide) _).mono ?_
      rintro e w3 ⟨E, rfl, hc3, hb3⟩
      have HC3 := lhd hc3
      have HB3 := lhd (HB2.out.trans (hb3.mono HB2.out.size))
      have HBT3 := lhd (HBT2.out.mono hb3)
      obtain ⟨u, x, rfl⟩ := hc3.some (by decide)
      obtain ⟨t0, t1, t2⟩ := HBT3.out.cells
      obtain ⟨y0, y1, y2⟩ := HBT3.out.free
      clear hc3 hb3
      go_wp2
      refine bodyPost_ret (zAg rfl _ _ (w.heap.size + 1) 249 _ (0, 0) _ rfl (HBT3.out.done _ _ _) Tryz.underlying249 rfl (by kernel_rfl)) rfl ?_
      exact ⟨_, rfl, HBT3.out.err HC3.out _ _ _, TripBox.below HB3.out (by omega) _ _ _⟩
  · have HR : Hid (∀ w, Calls Tryz.prog 188 #[.agg #[.int .i64 K, .int .i64 S, .int .i64 H, .int .i64 L, .int .i64 P]] w fun e w' => ∃ E ls, e = .returned E ∧ Chain w' 1 ls E ∧ Below w.heap.size w w') := lhd fun w => zH9 K S H L P hgood hK
    clear hbad hgood hK
    unfold parV parC
    go_enter Tryz.func156, Tryz.ntmps156
    go_upto_region 1 with fail
    rw [← HW0.out, ← HW1.out]
    go_wp2_with fail
    refine (HR.out _).mono ?_
    rintro e w2 ⟨E, ls, rfl, hch, hb2⟩
    have HB2 := lhd (HB1.out.trans (hb2.mono HB1.out.size))
    have HBT2 := lhd (HBT.out.mono hb2)
    have HCH := lhd hch
    obtain ⟨u, x, rfl⟩ := hch.iface
    clear hb2 hch c0 c1 c2 c3 c4
    go_wp2_with fail
    refine (zBC nameLTrip 1 ls _ _ HCH.out).mono ?_
    rintro e w3 ⟨E2, rfl, hch, hb3⟩
    have HB3 := lhd (HB2.out.trans (hb3.mono HB2.out.size))
    have HBT3 := lhd (HBT2.out.mono hb3)
    have HCH2 := lhd hch
    obtain ⟨u2, x2, rfl⟩ := hch.iface
    obtain ⟨t0, t1, t2⟩ := HBT3.out.cells
    obtain ⟨y0, y1, y2⟩ := HBT3.out.free
    clear hch hb3
    go_wp2
    refine bodyPost_ret (zAg rfl _ _ (w.heap.size + 1) 249 _ (0, 0) _ rfl (HBT3.out.done _ _ _) Tryz.underlying249 rfl (by kernel_rfl)) rfl ?_
    exact ⟨_, rfl, HBT3.out.err (.inr ⟨by decide, ls, HCH2.out⟩) _ _ _, TripBox.below HB3.out (by omega) _ _ _⟩
end

section
open Go.RowKit Go.Extern.Stop Go.Stop Go.Extern
open Classical in
noncomputable def checkR (K S H L P seed : Int) (es : List Int) : Int :=
  if ¬ Good K S H L P ∨ seed < 0 ∨ 65535 < seed then 1 else if es.any (fun e => decide (e < 0) || decide (65536 ≤ e)) = true then 1 else if 4096 < es.length then 3 else 0
theorem zHR {K S H L P seed : Int} {es : List Int} (h : ¬ Good K S H L P ∨ seed < 0 ∨ 65535 < seed) : checkR K S H L P seed es = 1 := if_pos h
theorem zHi {K S H L P seed : Int} {es : List Int} (h : ¬ (¬ Good K S H L P ∨ seed < 0 ∨ 65535 < seed)) {j : Nat} (hj : j < es.length) (he : es.getD j 0 < 0 ∨ 65536 ≤ es.getD j 0) : checkR K S H L P seed es = 1 := by
  unfold checkR
  rw [if_neg h, if_pos]
  rw [List.any_eq_true]
  refine ⟨es.getD j 0, ?_, ?_⟩
  · rw [List.getD_eq_getElem?_getD, List.getElem?_eq_getElem hj]
    exact List.getElem_mem hj
  · simpa using he
theorem zC6 {K S H L P seed : Int} {es : List Int} (h : ¬ (¬ Good K S H L P ∨ seed < 0 ∨ 65535 < seed)) (he : ∀ j, j < es.length → 0 ≤ es.getD j 0 ∧ es.getD j 0 < 65536) : checkR K S H L P seed es = if 4096 < es.length then 3 else 0 := by
  unfold checkR
  rw [if_neg h, if_neg]
  rw [List.any_eq_true]
  rintro ⟨e, hm, hx⟩
  obtain ⟨j, hj, rfl⟩ := List.getElem_of_mem hm
  have := he j hj
  rw [List.getD_eq_getElem?_getD, List.getElem?_eq_getElem hj, Option.getD_some] at this
  simp at hx
  omega
def RawAns (k : Int) (w : World) (E : Value) : Prop := (k = 0 ∧ E = .nilIface) ∨ (k ≠ 0 ∧ ∃ ls, Chain w k ls E)
theorem RawAns.nil {k : Int} {w : World} {E : Value} (h : RawAns k w E) (hk : k = 0) : E = .nilIface := by
  rcases h with ⟨_, h⟩ | ⟨h, _⟩
  · exact h
  · exact absurd hk h
theorem zIc {w : World} (K S H L P seed : Int) (v : Value) (es : List Int) (hK : I64 K) (hv : ListAt intV w v es) (hT : DgTab w) :
    Calls Tryz.prog 123 #[parV K S H L P, .int .i64 seed, v] w fun e w' => ∃ E, e = .returned E ∧ RawAns (checkR K S H L P seed es) w' E ∧ Below w.heap.size w w' := by
  obtain ⟨w0, hw0, hb0, hbx⟩ := zAi w K S H L P
  have HW0 := lhd hw0
  have HB0 := lhd hb0
  obtain ⟨c0, c1, c2, c3, c4⟩ := hbx.cells
  have HV := lhd hv
  have HT := lhd (PairsAt.mono hT hb0)
  obtain ⟨av, cv, rfl, -, -, -⟩ := hv
  by_cases hbad : ¬ Good K S H L P ∨ seed < 0 ∨ 65535 < seed
  · have HC := lhd (zHR (es := es) hbad)
    have HN : Hid (∀ w, Calls Tryz.prog 156 #[.agg #[.int .i64 K, .int .i64 S, .int .i64 H, .int .i64 L, .int .i64 P], .int .i64 seed, .int .i64 0] w (NoSays 1 nameLTrip (.agg #[.int .i64 0, .int .i64 0, .int .i64 0]) w)) := lhd fun w => zNb K S H L P seed 0 hK (by
      rcases hbad with h | h | h
      · exact .inl h
      · exact .inr (.inl h)
      · exact .inr (.inr (.inl (by omega))))
    clear hw0 hb0 hbx hbad hK hT
    unfold parV parC
    go_enter Tryz.func123, Tryz.ntmps123
    go_upto_region 1 with fail
    rw [← HW0.out]
    go_wp2_with fail
    refine (HN.out _).mono ?_
    rintro e w1 ⟨E, rfl, hc, hb1⟩
    obtain ⟨w2, hw2, hb2, hbt⟩ := zAO w1 0 0 0
    have HW2 := lhd hw2
    have hbb := hb1.trans (hb2.mono hb1.size)
    have HB2 := lhd (HB0.out.trans (hbb.mono HB0.out.size))
    obtain ⟨ls, hch⟩ : ∃ ls, Chain w1 1 (nameLTrip :: ls) E := (hc.resolve_left (by rintro ⟨h, -⟩; cases h)).2
    have HCH := lhd (hch.mono hb2)
    obtain ⟨u, x, rfl⟩ := hch.iface
    clear hw2 hb1 hb2 hbb hbt hc hch c0 c1 c2 c3 c4
    go_upto_region 2 with fail
    rw [← HW2.out]
    go_wp2
    go_ret
    exact ⟨_, rfl, .inr ⟨by rw [HC.out]; decide, _, by rw [HC.out]; exact HCH.out⟩, HB2.out⟩
  · have HBAD := lhd hbad
    obtain ⟨k, s, h, l, p, rfl, rfl, rfl, rfl, rfl, hk1, hk2, hof⟩ : Good K S H L P := Classical.byContradiction fun hn => hbad (.inl hn)
    obtain ⟨sd, rfl⟩ : ∃ sd : Nat, seed = (sd : Int) := ⟨seed.toNat, by omega⟩
    have hsd : sd < 65536 := by omega
    obtain ⟨D, hD⟩ : ∃ D, trD l (mixN 0 sd) = D := ⟨_, rfl⟩
    obtain ⟨S, hS⟩ : ∃ S, trS p (mixN 0 sd) = S := ⟨_, rfl⟩
    obtain ⟨A, hA⟩ : ∃ A, trA p (mixN 0 sd) = A := ⟨_, rfl⟩
    have HTR : Hid (∀ V, DgTab V → Calls Tryz.prog 156 #[.agg #[.int .i64 (k : Int), .int .i64 (s : Int), .int .i64 (h : Int), .int .i64 (l : Int), .int .i64 (p : Int)], .int .i64 (sd : Int), .int .i64 0] V fun e w' => e = .returned (.tuple #[.agg #[.int .i64 (D : Int), .int .i64 (S : Int), .int .i64 (A : Int)], .nilIface]) ∧ Below V.heap.size V w') := lhd fun V hV => by
      have := zJV (w := V) k s h l p sd 0 hof hk1 hk2 hsd (by decide) hV
      rwa [hD, hS, hA] at this
    clear hw0 hb0 hbx hbad hK hT hD hS hA hof hk1 hk2 hsd
    unfold parV parC
    go_enter Tryz.func123, Tryz.ntmps123
    go_upto_region 1 with fail
    rw [← HW0.out]
    go_wp2_with fail
    refine (HTR.out _ HT.out).mono ?_
    rintro e w1 ⟨rfl, hb1⟩
    obtain ⟨w2, hw2, hb2, hbt⟩ := zAO w1 D S A
    have HW2 := lhd hw2
    have hbb := hb1.trans (hb2.mono hb1.size)
    have HB2 := lhd (HB0.out.trans (hbb.mono HB0.out.size))
    have HV2 := lhd (HV.out.mono HB2.out)
    clear hw2 hb1 hb2 hbb hbt c0 c1 c2 c3 c4
    go_upto_region 2 with fail
    rw [← HW2.out]
    have hlen := HV2.out.len
    obtain ⟨av', cv', hve, -, -, hcell⟩ := HV2.out
    cases hve
    have HC := lhd hcell
    clear hcell
    go_wp2
    go_loopw [22] (fun i wr => ∃ j : Nat, j ≤ es.length ∧ i = .int .i64 j ∧ (∀ t, t < j → 0 ≤ es.getD t 0 ∧ es.getD t 0 < 65536) ∧ w2 = wr) (fun i _ => es.length - (intOf i).toNat)
    case atStart => exact ⟨0, Nat.zero_le _, rfl, fun t ht => by omega, rfl⟩
    case round =>
      obtain ⟨j, hj, rfl, hz, rfl⟩ := hrel
      by_cases hlt : j < es.length
      · obtain ⟨b, off, rfl, hcc⟩ := HC.out (by omega)
        have hx := hcc j hlt
        have HF : Hid (es.getD j 0 < 0 ∨ 65536 ≤ es.getD j 0 → checkR k s h l p sd es = 1) := lhd (zHi HBAD.out hlt)
        have HZ : Hid (0 ≤ es.getD j 0 ∧ es.getD j 0 < 65536 → ∀ t, t < j + 1 → 0 ≤ es.getD t 0 ∧ es.getD t 0 < 65536) := lhd fun hh t ht => by
          by_cases e : t = j
          · rw [e]; exact hh
          · exact hz t (by omega)
        have hxe : es[j] = es.getD j 0 := by simp [List.getD_eq_getElem?_getD, hlt]
        have hy : w2.cell? ⟨b, off + j, none⟩ = some (.int .i64 (es.getD j 0)) := by rw [hx, ← hxe]; rfl
        clear hcc hx hz hxe
        generalize es.getD j 0 = y at *
        by_cases h1 : y < 0
        · have d1 : decide (y < 0) = true := decide_eq_true h1
          have HE := lhd (HF.out (.inl h1))
          clear HF HZ h1
          go_wp2
          go_ret
          exact ⟨_, rfl, .inr ⟨by rw [HE.out]; decide, [], by rw [HE.out]; exact .leaf⟩, HB2.out⟩
        · have d1 : decide (y < 0) = false := decide_eq_false h1
          by_cases h2 : 65536 ≤ y
          · have d2 : decide (65536 ≤ y) = true := decide_eq_true h2
            have HE := lhd (HF.out (.inr h2))
            clear HF HZ h1 h2
            go_wp2
            go_ret
            exact ⟨_, rfl, .inr ⟨by rw [HE.out]; decide, [], by rw [HE.out]; exact .leaf⟩, HB2.out⟩
          · have d2 : decide (65536 ≤ y) = false := decide_eq_false h2
            have HZ' := lhd (HZ.out ⟨by omega, by omega⟩)
            clear HF HZ h1 h2
            go_wp2
            go_roundw
            case rel => exact ⟨j + 1, by omega, by go_num, HZ'.out, trivial⟩
            case measure => simp [intOf]; omega
      · have hj' : j = es.length := by omega
        have HE : Hid (checkR k s h l p sd es = if 4096 < es.length then 3 else 0) := lhd (zC6 HBAD.out fun t ht => hz t (by omega))
        clear hz
        by_cases h3 : 4096 < es.length
        · have HE' : Hid (checkR k s h l p sd es = 3) := lhd (by rw [HE.out, if_pos h3])
          clear HE
          go_wp2
          go_ret
          exact ⟨_, rfl, .inr ⟨by rw [HE'.out]; decide, [], by rw [HE'.out]; exact .leaf⟩, HB2.out⟩
        · have HE' : Hid (checkR k s h l p sd es = 0) := lhd (by rw [HE.out, if_neg h3])
          clear HE
          go_wp2
          go_ret
          exact ⟨_, rfl, .inl ⟨HE'.out, rfl⟩, HB2.out⟩
end
end Go.Proofs.YtkfimdpcadbcpaaGreatDoor
