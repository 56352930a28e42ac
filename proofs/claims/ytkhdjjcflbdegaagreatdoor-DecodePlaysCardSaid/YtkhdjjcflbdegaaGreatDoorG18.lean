import Derived.Test.YtkhdjjcflbdegaaGreatDoorG14
import Derived.Test.YtkhdjjcflbdegaaGreatDoorG04
import Derived.Deep.RegionHeld3
import Derived.Deep.CutBlock
import Derived.Deep.QuietTactic
import Derived.Test.YtkhdjjcflbdegaaGreatDoorG07
import Derived.Test.YtkhdjjcflbdegaaGreatDoorG02
import Derived.Test.YtkhdjjcflbdegaaGreatDoorG05
import Derived.WalkKit
import Derived.ProofKit
import Derived.Laws.Bits64
import Derived.Lib.Hide
import Derived.Test.YtkhdjjcflbdegaaGreatDoorG08

section
/- The document's Right (was in PcH, PcJ). -/
namespace Go.Proofs.YtkhdjjcflbdegaaGreatDoor
open Go.RowKit Go.Extern.Stop Go.Stop Go.Extern

/-- Numbers that are those of their K. -/
def Good (K S H L P : Int) : Prop := ∃ k s h l p : Nat, K = k ∧ S = s ∧ H = h ∧ L = l ∧ P = p ∧ 1 ≤ k ∧ k ≤ 128 ∧ OfP k s h l p

end Go.Proofs.YtkhdjjcflbdegaaGreatDoor
end

section
/- A trip of package ltrow: a struct of three numbers; in a block of its own. -/
namespace Go.Proofs.YtkhdjjcflbdegaaGreatDoor
open Go.RowKit Go.Extern.Stop Go.Stop Go.Extern

/-- A trip as a struct. -/
def tripC (d s a : Int) : Array Value := #[.int .i64 d, .int .i64 s, .int .i64 a]
def tripV (d s a : Int) : Value := .agg (tripC d s a)
/-- A trip in a block of its own. -/
def TripBox (W : World) (g : Nat) (d s a : Int) : Prop := W.heap[g]? = some (.cells (tripC d s a) 145 (0, 0))
theorem TripBox.lt {W : World} {g : Nat} {d s a : Int} (b : TripBox W g d s a) : g < W.heap.size := (Array.getElem?_eq_some_iff.1 b).1
theorem TripBox.mono {W W' : World} {g : Nat} {d s a : Int} (b : TripBox W g d s a) (hb : Below W.heap.size W W') : TripBox W' g d s a := (hb.block g b.lt).trans b
theorem TripBox.cells {W : World} {g : Nat} {d s a : Int} (b : TripBox W g d s a) :
    W.cell? ⟨g, 0, none⟩ = some (.int .i64 d) ∧ W.cell? ⟨g, 1, none⟩ = some (.int .i64 s) ∧ W.cell? ⟨g, 2, none⟩ = some (.int .i64 a) :=
  ⟨cell_of_heap b rfl, cell_of_heap b rfl, cell_of_heap b rfl⟩
theorem TripBox.free {W : World} {g : Nat} {d s a : Int} (b : TripBox W g d s a) :
    W.frozen? ⟨g, 0, none⟩ = false ∧ W.frozen? ⟨g, 1, none⟩ = false ∧ W.frozen? ⟨g, 2, none⟩ = false :=
  ⟨frozen_of_heap b, frozen_of_heap b, frozen_of_heap b⟩
theorem trip_laid (w : World) (d s a : Int) : ∃ W, W = w.alloc (.cells #[.int .i64 d, .int .i64 s, .int .i64 a] 145) ∧ Below w.heap.size w W ∧ TripBox W w.heap.size d s a :=
  ⟨_, rfl, (Below.refl _ _).alloc (Nat.le_refl _) _, heap_alloc_new w _⟩
theorem TripBox.done {W : World} {g : Nat} {d s a : Int} (h : TripBox W g d s a) (x y z : Value) : (((W.setCell ⟨g, 0, none⟩ x).setCell ⟨g, 1, none⟩ y).setCell ⟨g, 2, none⟩ z).heap[g]? = some (.cells #[x, y, z] 145 (0, 0)) :=
  heap_setCell_at (heap_setCell_at (heap_setCell_at h))
theorem TripBox.below {W w : World} {B g : Nat} (hb : Below B w W) (hg : B ≤ g) (x y z : Value) : Below B w (((W.setCell ⟨g, 0, none⟩ x).setCell ⟨g, 1, none⟩ y).setCell ⟨g, 2, none⟩ z) :=
  ((hb.setCell (p := ⟨g, 0, none⟩) hg x).setCell (p := ⟨g, 1, none⟩) hg y).setCell (p := ⟨g, 2, none⟩) hg z
theorem TripBox.err {W : World} {g : Nat} {d s a : Int} {k : Int} {n : ByteArray} {E : Value} (h : TripBox W g d s a) (he : ErrAns k n W E) (x y z : Value) : ErrAns k n (((W.setCell ⟨g, 0, none⟩ x).setCell ⟨g, 1, none⟩ y).setCell ⟨g, 2, none⟩ z) E :=
  errAns_kept2 he fun b s hc => by
    have n1 : b ≠ g := by
      rintro rfl
      rw [h.cells.1] at hc
      cases hc
    rw [Below.heap_setCell _ _ _ _ n1, Below.heap_setCell _ _ _ _ n1, Below.heap_setCell _ _ _ _ n1]
theorem ParBox.set {W : World} {g b j : Nat} {k s h l p : Int} {u : Value} (x : ParBox W g k s h l p) (hn : g ≠ b) : ParBox (W.setCell ⟨b, j, none⟩ u) g k s h l p := (Below.heap_setCell _ ⟨b, j, none⟩ _ _ hn).trans x
theorem TripBox.set {W : World} {g b j : Nat} {d s a : Int} {u : Value} (x : TripBox W g d s a) (hn : g ≠ b) : TripBox (W.setCell ⟨b, j, none⟩ u) g d s a := (Below.heap_setCell _ ⟨b, j, none⟩ _ _ hn).trans x
end Go.Proofs.YtkhdjjcflbdegaaGreatDoor
end

section
/- Package ltrow: right numbers. -/
namespace Go.Proofs.YtkhdjjcflbdegaaGreatDoor
open Go.RowKit Go.Extern.Stop Go.Stop Go.Extern

set_option maxRecDepth 1000000 in
set_option maxHeartbeats 1000000 in
theorem lRight_ok {w : World} (k s h l p : Nat) (H : OfP k s h l p) (hk1 : 1 ≤ k) (hk2 : k ≤ 128) :
    Calls Tryz.prog 124 #[parV k s h l p] w fun e w' => e = .returned .nilIface ∧ Below w.heap.size w w' := by
  obtain ⟨w0, hw0, hb0, hbx⟩ := par_laid w k s h l p
  have HW0 := Lib.hid hw0
  have HB0 := Lib.hid hb0
  have HBX := Lib.hid hbx
  obtain ⟨c0, c1, c2, c3, c4⟩ := hbx.cells
  have HOF := Lib.hid H
  clear hw0 hb0 hbx H
  unfold parV parC
  go_enter Tryz.func124, Tryz.ntmps124
  go_wp2_with fail
  rw [← HW0.out]
  refine (Of_in k hk1 hk2).mono ?_
  rintro e w1 ⟨s', h', l', p', rfl, hof, hb1⟩
  obtain ⟨rfl, rfl, rfl, rfl⟩ := hof.unique HOF.out
  obtain ⟨W, hW, hbW, hby⟩ := par_laid w1 k s' h' l' p'
  have HW := Lib.hid hW
  have HB1 := Lib.hid (hb1.trans (hbW.mono hb1.size))
  have hbx2 := HBX.out.mono HB1.out
  clear c0 c1 c2 c3 c4
  obtain ⟨c0, c1, c2, c3, c4⟩ := hbx2.cells
  obtain ⟨d0, d1, d2, d3, d4⟩ := hby.cells
  clear hb1 hof hW hbW hby hbx2
  unfold parV parC
  go_upto_region 2 with fail
  rw [← HW.out]
  generalize w1.heap.size = g1 at *
  go_wp2_with fail
  refine (Is_nil 1 _).mono ?_
  rintro e w2 ⟨rfl, rfl⟩
  go_wp2
  go_ret
  exact ⟨rfl, HB0.out.trans (HB1.out.mono HB0.out.size)⟩

set_option maxRecDepth 1000000 in
set_option maxHeartbeats 1000000 in
theorem lRight_bad {w : World} (K S H L P : Int) (hb : ¬ Good K S H L P) (hK : I64 K) :
    Calls Tryz.prog 124 #[parV K S H L P] w fun e w' => ∃ E ls, e = .returned E ∧ Chain w' 1 ls E ∧ Below w.heap.size w w' := by
  obtain ⟨w0, hw0, hb0, hbx⟩ := par_laid w K S H L P
  have HW0 := Lib.hid hw0
  have HB0 := Lib.hid hb0
  have HBX := Lib.hid hbx
  obtain ⟨c0, c1, c2, c3, c4⟩ := hbx.cells
  have HBAD := Lib.hid hb
  clear hw0 hb0 hbx hb
  unfold parV parC
  by_cases hr : K < 1 ∨ 128 < K
  · go_enter Tryz.func124, Tryz.ntmps124
    go_upto_region 1 with fail
    rw [← HW0.out]
    go_wp2_with fail
    refine (Of_out K hr).mono ?_
    rintro e w1 ⟨E, rfl, hc, hb1⟩
    have HB1 := Lib.hid (HB0.out.trans (hb1.mono HB0.out.size))
    have hs1 := hb1.size
    obtain ⟨_, ls, hch⟩ := hc.resolve_left (by rintro ⟨h, -⟩; cases h)
    obtain ⟨W, hW, hbW, hby⟩ := par_laid w1 0 0 0 0 0
    have HW := Lib.hid hW
    have HBW := Lib.hid (HB1.out.trans (hbW.mono (Nat.le_trans HB0.out.size hs1)))
    have HCH := Lib.hid (hch.mono hbW)
    obtain ⟨u, x, rfl⟩ := hch.iface
    clear hb1 hc hch c0 c1 c2 c3 c4 hW hbW hby
    unfold parV parC
    go_upto_region 2 with fail
    rw [← HW.out]
    go_wp2_with fail
    refine (Is_num 1 1 _ _ HCH.out).mono ?_
    rintro e w2 ⟨rfl, rfl⟩
    go_wp2
    go_ret
    exact ⟨_, _, rfl, HCH.out, HBW.out⟩
  · obtain ⟨k, rfl⟩ : ∃ k : Nat, K = k := ⟨K.toNat, by omega⟩
    go_enter Tryz.func124, Tryz.ntmps124
    go_upto_region 1 with fail
    rw [← HW0.out]
    go_wp2_with fail
    refine (Of_in k (by omega) (by omega)).mono ?_
    rintro e w1 ⟨s', h', l', p', rfl, hof, hb1⟩
    obtain ⟨W, hW, hbW, hby⟩ := par_laid w1 k s' h' l' p'
    have HW := Lib.hid hW
    have HB1 := Lib.hid (hb1.trans (hbW.mono hb1.size))
    have hbx2 := HBX.out.mono HB1.out
    clear c0 c1 c2 c3 c4
    obtain ⟨c0, c1, c2, c3, c4⟩ := hbx2.cells
    obtain ⟨d0, d1, d2, d3, d4⟩ := hby.cells
    have HNE : Hid (¬ (S = s' ∧ H = h' ∧ L = l' ∧ P = p')) := Lib.hid fun ⟨e1, e2, e3, e4⟩ => HBAD.out ⟨k, s', h', l', p', rfl, e1, e2, e3, e4, by omega, by omega, hof⟩
    clear hb1 hof hW hbW hby hbx2
    unfold parV parC
    go_upto_region 2 with fail
    rw [← HW.out]
    generalize w1.heap.size = g1 at *
    go_wp2_with fail
    refine (Is_nil 1 _).mono ?_
    rintro e w2 ⟨rfl, rfl⟩
    go_wp2
    all_goals first
      | exact (HNE.out ⟨by assumption, by assumption, by assumption, by assumption⟩).elim
      | (go_ret; exact ⟨_, [], rfl, .leaf, HB0.out.trans (HB1.out.mono HB0.out.size)⟩)
end Go.Proofs.YtkhdjjcflbdegaaGreatDoor
end

section
/- Package mix and the document's mixing: the walks of Mix, Unmix, times, fold, Mix. -/
namespace Go.Proofs.YtkhdjjcflbdegaaGreatDoor
open Go.RowKit Go.Extern.Stop Go.Stop Go.Extern

theorem wrap_u32_nat (n : Nat) : IntKind.u32.wrap (n : Int) = ((n % 4294967296 : Nat) : Int) := by rw [IntKind.wrap_u32]; omega
theorem bits_xor_u32_nat (a b : Nat) (ha : a < 4294967296) (hb : b < 4294967296) : bits .xor .u32 (a : Int) (b : Int) = ((a ^^^ b : Nat) : Int) := by
  have hx : a ^^^ b < 2 ^ 32 := Nat.xor_lt_two_pow (by omega) (by omega)
  have h1 : (BitVec.ofInt 32 (a : Int)).toNat = a := by
    rw [BitVec.ofInt_natCast, BitVec.toNat_ofNat]; exact Nat.mod_eq_of_lt (by omega)
  have h2 : (BitVec.ofInt 32 (b : Int)).toNat = b := by
    rw [BitVec.ofInt_natCast, BitVec.toNat_ofNat]; exact Nat.mod_eq_of_lt (by omega)
  show IntKind.u32.wrap ((BitVec.ofInt 32 (a : Int) ^^^ BitVec.ofInt 32 (b : Int)).toNat : Int) = _
  rw [BitVec.toNat_xor, h1, h2, IntKind.wrap_u32]
  omega
theorem shm_nat (h k : Nat) : ((h : Int) / ((2 ^ k : Nat) : Int)) = ((h >>> k : Nat) : Int) := by
  rw [Nat.shiftRight_eq_div_pow, Int.natCast_ediv]
theorem shr_lt (h k b : Nat) (hh : h < b) : h >>> k < b := by
  rw [Nat.shiftRight_eq_div_pow]; exact Nat.lt_of_le_of_lt (Nat.div_le_self _ _) hh
theorem fold_u32 (h k : Nat) (hh : h < 4294967296) : bits .xor .u32 (h : Int) ((h : Int) / ((2 ^ k : Nat) : Int)) = ((foldN h k : Nat) : Int) := by
  rw [shm_nat]; exact bits_xor_u32_nat _ _ hh (shr_lt h k _ hh)
theorem fold_u64 (h k : Nat) (hh : h < 18446744073709551616) : bits .xor .u64 (h : Int) ((h : Int) / ((2 ^ k : Nat) : Int)) = ((foldN h k : Nat) : Int) := by
  rw [shm_nat]; exact bits_xor_u64_nat _ _ hh (shr_lt h k _ hh)

set_option maxRecDepth 1000000 in
set_option maxHeartbeats 1000000 in
theorem mixU_any {w : World} (x s : Nat) : Calls Tryz.prog 126 #[.int .u32 (x : Int), .int .u32 (s : Int)] w fun e w' => e = .returned (.int .u32 ((mixN x s : Nat) : Int)) ∧ w = w' := by
  obtain ⟨a, ha⟩ : ∃ a, a = x * 2654435761 % 4294967296 := ⟨_, rfl⟩
  obtain ⟨b, hb⟩ : ∃ b, b = (x * 2654435761 + s) % 4294967296 := ⟨_, rfl⟩
  obtain ⟨c, hc⟩ : ∃ c, c = foldN b 16 := ⟨_, rfl⟩
  obtain ⟨d, hd⟩ : ∃ d, d = c * 2246822507 % 4294967296 := ⟨_, rfl⟩
  obtain ⟨f, hf⟩ : ∃ f, f = foldN d 13 := ⟨_, rfl⟩
  obtain ⟨g, hg⟩ : ∃ g, g = f * 3266489909 % 4294967296 := ⟨_, rfl⟩
  obtain ⟨h, hh⟩ : ∃ h, h = foldN g 16 := ⟨_, rfl⟩
  have hbl : b < 4294967296 := by omega
  have hdl : d < 4294967296 := by omega
  have hgl : g < 4294967296 := by omega
  have e1 : IntKind.u32.wrap ((x : Int) * 2654435761) = (a : Int) := by rw [IntKind.wrap_u32]; omega
  have e2 : IntKind.u32.wrap ((a : Int) + (s : Int)) = (b : Int) := by rw [IntKind.wrap_u32]; omega
  have e3 : bits .xor .u32 (b : Int) ((b : Int) / 65536) = (c : Int) := by rw [hc]; exact fold_u32 b 16 hbl
  have e4 : IntKind.u32.wrap ((c : Int) * 2246822507) = (d : Int) := by rw [IntKind.wrap_u32]; omega
  have e5 : bits .xor .u32 (d : Int) ((d : Int) / 8192) = (f : Int) := by rw [hf]; exact fold_u32 d 13 hdl
  have e6 : IntKind.u32.wrap ((f : Int) * 3266489909) = (g : Int) := by rw [IntKind.wrap_u32]; omega
  have e7 : bits .xor .u32 (g : Int) ((g : Int) / 65536) = (h : Int) := by rw [hh]; exact fold_u32 g 16 hgl
  have hm : mixN x s = h := by unfold mixN; rw [← hb, ← hc, ← hd, ← hf, ← hg, ← hh]
  rw [hm]
  clear ha hb hc hd hf hg hh hm
  go_enter Tryz.func126, Tryz.ntmps126
  go_wp2
  go_ret
  exact ⟨rfl, rfl⟩

theorem tmod32 (n : Nat) : (n : Int).tmod 4294967296 = ((n % 4294967296 : Nat) : Int) := by
  rw [Int.tmod_eq_emod_of_nonneg (Int.natCast_nonneg n)]; omega

set_option maxRecDepth 1000000 in
set_option maxHeartbeats 1000000 in
theorem times_any {w : World} (a b : Nat) (ha : a < 4294967296) (hb : b < 4294967296) : Calls Tryz.prog 131 #[.int .u64 (a : Int), .int .u64 (b : Int)] w fun e w' => e = .returned (.int .u64 ((timesN a b : Nat) : Int)) ∧ w = w' := by
  have hA : a * (b % 65536) ≤ 4294967295 * 65535 := Nat.mul_le_mul (by omega) (by omega)
  have hB : a * (b / 65536) ≤ 4294967295 * 65535 := Nat.mul_le_mul (by omega) (by omega)
  have cA : ((a * (b % 65536) : Nat) : Int) = (a : Int) * ((b : Int) % 65536) := by rw [Int.natCast_mul, Int.natCast_emod]; rfl
  have cB : ((a * (b / 65536) : Nat) : Int) = (a : Int) * ((b : Int) / 65536) := by rw [Int.natCast_mul, Int.natCast_ediv]; rfl
  have hF : timesN a b = (a * (b % 65536) + a * (b / 65536) % 4294967296 * 65536) % 4294967296 := rfl
  generalize a * (b % 65536) = A at *
  generalize a * (b / 65536) = B at *
  obtain ⟨C, hC⟩ : ∃ C, C = B % 4294967296 := ⟨_, rfl⟩
  obtain ⟨D, hD⟩ : ∃ D, D = C * 65536 := ⟨_, rfl⟩
  obtain ⟨E, hE⟩ : ∃ E, E = A + D := ⟨_, rfl⟩
  rw [← hC, ← hD, ← hE] at hF
  rw [hF]
  have e1 : IntKind.u64.wrap ((a : Int) * ((b : Int) % 65536)) = (A : Int) := by rw [← cA, IntKind.wrap_u64]; omega
  have e2 : IntKind.u64.wrap ((a : Int) * ((b : Int) / 65536)) = (B : Int) := by rw [← cB, IntKind.wrap_u64]; omega
  have e3 : (B : Int).tmod 4294967296 = (C : Int) := by rw [hC]; exact tmod32 B
  have e4 : IntKind.u64.wrap ((C : Int) * 65536) = (D : Int) := by rw [IntKind.wrap_u64]; omega
  have e5 : IntKind.u64.wrap ((A : Int) + (D : Int)) = (E : Int) := by rw [IntKind.wrap_u64]; omega
  have e6 := tmod32 E
  generalize E % 4294967296 = F at *
  clear hA hB cA cB hF hC hD hE
  go_enter Tryz.func131, Tryz.ntmps131
  go_wp2
  go_ret
  exact ⟨rfl, rfl⟩

set_option maxRecDepth 1000000 in
set_option maxHeartbeats 1000000 in
theorem fold_any {w : World} (h k : Nat) (hh : h < 18446744073709551616) (hk : k < 64) : Calls Tryz.prog 132 #[.int .u64 (h : Int), .int .u64 (k : Int)] w fun e w' => e = .returned (.int .u64 ((foldN h k : Nat) : Int)) ∧ w = w' := by
  have e1 : bits .xor .u64 (h : Int) ((h : Int) / 2 ^ k) = ((foldN h k : Nat) : Int) := by
    have := fold_u64 h k hh
    rw [← this]; norm_cast
  go_enter Tryz.func132, Tryz.ntmps132
  go_wp2
  go_ret
  exact ⟨rfl, rfl⟩

set_option maxRecDepth 1000000 in
set_option maxHeartbeats 1000000 in
theorem refMix_any {w : World} (x s : Nat) (hx : x < 4294967296) (hs : s < 4294967296) : Calls Tryz.prog 115 #[.int .u32 (x : Int), .int .u32 (s : Int)] w fun e w' => e = .returned (.int .u32 ((mixN x s : Nat) : Int)) ∧ w = w' := by
  obtain ⟨a, ha⟩ : ∃ a, a = x * 2654435761 % 4294967296 := ⟨_, rfl⟩
  obtain ⟨b, hb⟩ : ∃ b, b = (x * 2654435761 + s) % 4294967296 := ⟨_, rfl⟩
  obtain ⟨c, hc⟩ : ∃ c, c = foldN b 16 := ⟨_, rfl⟩
  obtain ⟨d, hd⟩ : ∃ d, d = c * 2246822507 % 4294967296 := ⟨_, rfl⟩
  obtain ⟨f, hf⟩ : ∃ f, f = foldN d 13 := ⟨_, rfl⟩
  obtain ⟨g, hg⟩ : ∃ g, g = f * 3266489909 % 4294967296 := ⟨_, rfl⟩
  obtain ⟨h, hh⟩ : ∃ h, h = foldN g 16 := ⟨_, rfl⟩
  have hbl : b < 4294967296 := by omega
  have hdl : d < 4294967296 := by omega
  have hgl : g < 4294967296 := by omega
  have hcl : c < 4294967296 := by rw [hc]; exact fold_lt _ _ hbl
  have hfl : f < 4294967296 := by rw [hf]; exact fold_lt _ _ hdl
  have hhl : h < 4294967296 := by rw [hh]; exact fold_lt _ _ hgl
  have hal : a < 4294967296 := by omega
  have h1 : timesN x 2654435761 = a := by rw [timesN_eq, ha]
  have h2 : timesN c 2246822507 = d := by rw [timesN_eq, hd]
  have h3 : timesN f 3266489909 = g := by rw [timesN_eq, hg]
  have hm : mixN x s = h := by unfold mixN; rw [← hb, ← hc, ← hd, ← hf, ← hg, ← hh]
  rw [hm]
  have e1 : IntKind.u64.wrap ((a : Int) + (s : Int)) = ((a + s : Nat) : Int) := by rw [IntKind.wrap_u64]; omega
  have e2 : ((a + s : Nat) : Int).tmod 4294967296 = (b : Int) := by rw [tmod32]; omega
  have e3 : IntKind.u32.wrap (h : Int) = (h : Int) := by rw [IntKind.wrap_u32]; omega
  generalize a + s = t at *
  have HC := Lib.hid hc
  have HF := Lib.hid hf
  have HH := Lib.hid hh
  clear ha hb hc hd hf hg hh hm
  go_enter Tryz.func115, Tryz.ntmps115
  go_wp2_with fail
  refine (times_any x 2654435761 hx (by decide)).mono ?_
  rintro e w1 ⟨rfl, rfl⟩
  rw [h1]
  go_wp2_with fail
  refine (fold_any b 16 (by omega) (by decide)).mono ?_
  rintro e w1 ⟨rfl, rfl⟩
  rw [← HC.out]
  go_wp2_with fail
  refine (times_any c 2246822507 hcl (by decide)).mono ?_
  rintro e w1 ⟨rfl, rfl⟩
  rw [h2]
  go_wp2_with fail
  refine (fold_any d 13 (by omega) (by decide)).mono ?_
  rintro e w1 ⟨rfl, rfl⟩
  rw [← HF.out]
  go_wp2_with fail
  refine (times_any f 3266489909 hfl (by decide)).mono ?_
  rintro e w1 ⟨rfl, rfl⟩
  rw [h3]
  go_wp2_with fail
  refine (fold_any g 16 (by omega) (by decide)).mono ?_
  rintro e w1 ⟨rfl, rfl⟩
  rw [← HH.out]
  go_wp2
  go_ret
  exact ⟨rfl, rfl⟩
end Go.Proofs.YtkhdjjcflbdegaaGreatDoor
end

section
/- Package mix and the document's mixing: Below and Row. -/
namespace Go.Proofs.YtkhdjjcflbdegaaGreatDoor
open Go.RowKit Go.Extern.Stop Go.Stop Go.Extern

/-- Why there is none below a bound. -/
def boundC (m : Int) : Int := if m < 1 ∨ 1048576 < m then 1 else 0
theorem boundC_in {M : Nat} (h1 : 1 ≤ M) (h2 : M ≤ 1048576) : boundC (M : Int) = 0 := by unfold boundC; rw [if_neg (by omega)]
theorem boundC_out {m : Int} (h : m < 1 ∨ 1048576 < m) : boundC m = 1 := by unfold boundC; rw [if_pos h]

theorem bound_in {w : World} (M : Nat) (h1 : 1 ≤ M) (h2 : M ≤ 1048576) : Calls Tryz.prog 152 #[.int .i64 (M : Int)] w fun e w' => e = .returned (.bool true) ∧ w = w' := by
  have hI1 : (1 : Int) ≤ (M : Int) := by omega
  have hI2 : (M : Int) ≤ 1048576 := by omega
  go_enter Tryz.func152, Tryz.ntmps152
  go_wp2
  go_ret
  exact ⟨rfl, rfl⟩
theorem bound_out {w : World} (m : Int) (h : m < 1 ∨ 1048576 < m) : Calls Tryz.prog 152 #[.int .i64 m] w fun e w' => e = .returned (.bool false) ∧ w = w' := by
  rcases h with h | h
  · go_enter Tryz.func152, Tryz.ntmps152
    go_wp2
    go_ret
    exact ⟨rfl, rfl⟩
  · have h' : (1 : Int) ≤ m := by omega
    have hd : decide (m ≤ 1048576) = false := decide_eq_false (by omega)
    go_enter Tryz.func152, Tryz.ntmps152
    go_wp2
    go_ret
    exact ⟨rfl, rfl⟩
set_option maxRecDepth 1000000 in
set_option maxHeartbeats 1000000 in
theorem mBelow_any {w : World} (x s M : Nat) (h1 : 1 ≤ M) (h2 : M ≤ 1048576) : Calls Tryz.prog 153 #[.int .u32 (x : Int), .int .u32 (s : Int), .int .i64 (M : Int)] w fun e w' => e = .returned (.int .i64 ((mixN x s % M : Nat) : Int)) ∧ w = w' := by
  have hlt := mixN_lt x s
  have e1 : IntKind.u32.wrap (M : Int) = (M : Int) := by rw [IntKind.wrap_u32]; omega
  have e2 : ((mixN x s : Nat) : Int).tmod (M : Int) = ((mixN x s % M : Nat) : Int) := by
    rw [Int.tmod_eq_emod_of_nonneg (Int.natCast_nonneg _), Int.natCast_emod]
  have hr : mixN x s % M < 1048576 := by have := Nat.mod_lt (mixN x s) (y := M) (by omega); omega
  have e3 : wrap64 ((mixN x s % M : Nat) : Int) = ((mixN x s % M : Nat) : Int) := by unfold wrap64; omega
  have hM0 : (M : Int) ≠ 0 := by omega
  have hM1 : ((M : Int) == 0) = false := by simpa using hM0
  generalize mixN x s % M = r at *
  obtain ⟨y, hy⟩ : ∃ y, mixN x s = y := ⟨_, rfl⟩
  rw [hy] at hlt e2
  have HY := Lib.hid hy
  clear hy
  go_enter Tryz.func153, Tryz.ntmps153
  go_wp2_with fail
  refine (mixU_any x s).mono ?_
  rintro e w1 ⟨rfl, rfl⟩
  rw [HY.out]
  go_wp2
  go_ret
  exact ⟨rfl, rfl⟩

set_option maxRecDepth 1000000 in
set_option maxHeartbeats 1000000 in
theorem rBelow_any {w : World} (x s M : Nat) (hx : x < 4294967296) (hs : s < 4294967296) (h1 : 1 ≤ M) (h2 : M ≤ 1048576) : Calls Tryz.prog 117 #[.int .u32 (x : Int), .int .u32 (s : Int), .int .i64 (M : Int)] w fun e w' => e = .returned (.int .i64 ((mixN x s % M : Nat) : Int)) ∧ w = w' := by
  have hlt := mixN_lt x s
  have e1 : IntKind.u64.wrap (M : Int) = (M : Int) := by rw [IntKind.wrap_u64]; omega
  have e2 : ((mixN x s : Nat) : Int).tmod (M : Int) = ((mixN x s % M : Nat) : Int) := by
    rw [Int.tmod_eq_emod_of_nonneg (Int.natCast_nonneg _), Int.natCast_emod]
  have hr : mixN x s % M < 1048576 := by have := Nat.mod_lt (mixN x s) (y := M) (by omega); omega
  have e3 : wrap64 ((mixN x s % M : Nat) : Int) = ((mixN x s % M : Nat) : Int) := by unfold wrap64; omega
  have hM0 : (M : Int) ≠ 0 := by omega
  have hM1 : ((M : Int) == 0) = false := by simpa using hM0
  generalize mixN x s % M = r at *
  obtain ⟨y, hy⟩ : ∃ y, mixN x s = y := ⟨_, rfl⟩
  rw [hy] at hlt e2
  have HY := Lib.hid hy
  clear hy
  go_enter Tryz.func117, Tryz.ntmps117
  go_wp2_with fail
  refine (refMix_any x s hx hs).mono ?_
  rintro e w1 ⟨rfl, rfl⟩
  rw [HY.out]
  go_wp2
  go_ret
  exact ⟨rfl, rfl⟩

set_option maxRecDepth 1000000 in
set_option maxHeartbeats 1000000 in
theorem Below_in {w : World} (x s M : Nat) (h1 : 1 ≤ M) (h2 : M ≤ 1048576) : Calls Tryz.prog 136 #[.int .u32 (x : Int), .int .u32 (s : Int), .int .i64 (M : Int)] w fun e w' => e = .returned (.tuple #[.int .i64 ((mixN x s % M : Nat) : Int), .nilIface]) ∧ w = w' := by
  go_enter Tryz.func136, Tryz.ntmps136
  go_wp2_with fail
  refine (bound_in M h1 h2).mono ?_
  rintro e w1 ⟨rfl, rfl⟩
  go_wp2_with fail
  refine (mBelow_any x s M h1 h2).mono ?_
  rintro e w1 ⟨rfl, rfl⟩
  go_wp2
  go_ret2
  exact ⟨rfl, rfl⟩
theorem Below_out {w : World} (x s : Nat) (m : Int) (h : m < 1 ∨ 1048576 < m) : Calls Tryz.prog 136 #[.int .u32 (x : Int), .int .u32 (s : Int), .int .i64 m] w fun e w' => ∃ E, e = .returned (.tuple #[.int .i64 0, E]) ∧ ErrAns 1 ⟨#[109, 105, 120, 46, 66, 101, 108, 111, 119]⟩ w' E ∧ Below w.heap.size w w' := by
  go_enter Tryz.func136, Tryz.ntmps136
  go_wp2_with fail
  refine (bound_out m h).mono ?_
  rintro e w1 ⟨rfl, rfl⟩
  go_wp2_with fail
  refine (New_ans _ 1 (by decide) _).mono ?_
  rintro e w1 ⟨E1, rfl, hc1, hb1⟩
  have HC1 := Lib.hid hc1
  have HB1 := Lib.hid hb1
  obtain ⟨u, v, rfl⟩ := hc1.some (by decide)
  clear hc1 hb1
  go_wp2
  go_ret2
  exact ⟨_, rfl, HC1.out, HB1.out⟩
end Go.Proofs.YtkhdjjcflbdegaaGreatDoor
end
