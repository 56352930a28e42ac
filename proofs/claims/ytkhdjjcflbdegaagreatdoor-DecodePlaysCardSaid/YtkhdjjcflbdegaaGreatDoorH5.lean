import Derived.Test.YtkhdjjcflbdegaaGreatDoorG02
import Derived.Test.YtkhdjjcflbdegaaGreatDoorH3
import Derived.Test.YtkhdjjcflbdegaaGreatDoorH4
import Derived.Test.YtkhdjjcflbdegaaGreatDoorG50
import Derived.Test.YtkhdjjcflbdegaaGreatDoorG28
import Derived.Outline

section
/- The thirteenth layer's laws: tells. -/
namespace Go.Proofs.YtkhdjjcflbdegaaGreatDoor
open Go.RowKit Go.Extern.Stop Go.Stop Go.Extern

theorem tells_nil {w : World} (c : ByteArray) : Calls Tryz.prog 13 #[.nilIface, .int .i64 0, .string c] w fun e w' => e = .returned (.bool true) ∧ w = w' := by
  go_enter Tryz.func13, Tryz.ntmps13
  go_wp2
  go_ret
  exact ⟨rfl, rfl⟩

set_option maxRecDepth 1000000 in
set_option maxHeartbeats 1000000 in
theorem tells_some {w : World} (n : Int) (hn : n ≠ 0) (c : ByteArray) (ls : List ByteArray) (E : Value) (h : Chain w n (c :: ls) E) (hg : Laid w) :
    Calls Tryz.prog 13 #[E, .int .i64 n, .string c] w fun e w' => e = .returned (.bool true) ∧ Below w.heap.size w w' := by
  have hnb : (n == 0) = false := by simpa using hn
  have HC := Lib.hid h
  cases h with
  | wrap b _ E1 l hc he h1 =>
  have hbl : b < w.heap.size := World.block_lt_of_cell? w ⟨b, 0, none⟩ hc
  have HCC := Lib.hid hc
  have HG := Lib.hid hg
  have hB : Below w.heap.size w ((w.alloc (.cells #[.int .i64 0] 83)).alloc (.cells #[.pointer none] 84)) := ((Below.refl _ _).alloc (Nat.le_refl _) _).alloc (by simp) _
  have HB := Lib.hid hB
  clear hg hc he h1 hB hn
  go_enter Tryz.func13, Tryz.ntmps13
  go_wp2_with fail
  refine (As_num n ⟨w.heap.size, 0, none⟩ (.int .i64 0) _ _ (HC.out.mono HB.out) (by simp) (by simp) (HG.out.mono HB.out)).mono ?_
  rintro e w' ⟨rfl, w1, hb1, rfl⟩
  have hs1 : w.heap.size + 2 ≤ w1.heap.size := by have := hb1.size; simp at this; omega
  have HB1 := Lib.hid ((HB.out.trans (hb1.mono (by simp; omega))).setCell (p := ⟨w.heap.size, 0, none⟩) (Nat.le_refl _) (.int .i64 n))
  have hn1 : w1.cell? ⟨w.heap.size, 0, none⟩ = some (.int .i64 0) := by rw [hb1.cell (p := ⟨w.heap.size, 0, none⟩) (by simp; omega)]; simp
  have hf1 : w1.cell? ⟨w.heap.size + 1, 0, none⟩ = some (.pointer none) := by rw [hb1.cell (p := ⟨w.heap.size + 1, 0, none⟩) (by simp)]; simp
  have hff1 : w1.frozen? ⟨w.heap.size + 1, 0, none⟩ = false := by rw [hb1.frozen (p := ⟨w.heap.size + 1, 0, none⟩) (by simp)]; simp
  have hn2 : (w1.setCell ⟨w.heap.size, 0, none⟩ (.int .i64 n)).cell? ⟨w.heap.size, 0, none⟩ = some (.int .i64 n) := World.cell?_setCell_same' _ _ _ (by rw [hn1]; rfl)
  have hf2 : (w1.setCell ⟨w.heap.size, 0, none⟩ (.int .i64 n)).cell? ⟨w.heap.size + 1, 0, none⟩ = some (.pointer none) := (World.cell?_setCell_other _ _ _ _ (by simp)).trans hf1
  have hff2 : (w1.setCell ⟨w.heap.size, 0, none⟩ (.int .i64 n)).frozen? ⟨w.heap.size + 1, 0, none⟩ = false := by rw [World.frozen?_setCell]; exact hff1
  have hs2 : w.heap.size + 2 ≤ (w1.setCell ⟨w.heap.size, 0, none⟩ (.int .i64 n)).heap.size := by simpa using hs1
  clear hn1 hf1 hff1 hs1 hb1
  generalize w1.setCell ⟨w.heap.size, 0, none⟩ (.int .i64 n) = w2 at *
  have HC2 := Lib.hid ((HB1.out.cell (p := ⟨b, 0, none⟩) hbl).trans HCC.out)
  have HF2 := Lib.hid hf2
  have HFF2 := Lib.hid hff2
  have HN2 := Lib.hid hn2
  clear hf2 hff2 hn2
  go_wp2_with fail
  refine (As_fault ⟨w.heap.size + 1, 0, none⟩ ⟨b, 0, none⟩ (.pointer none) HF2.out HFF2.out (HG.out.mono HB1.out)).mono ?_
  rintro e w' ⟨rfl, w3, hb3, rfl⟩
  have HB3 := Lib.hid ((HB1.out.trans (hb3.mono (by omega))).setCell (p := ⟨w.heap.size + 1, 0, none⟩) (by simp) (.pointer (some ⟨b, 0, none⟩)))
  have hf3 : w3.cell? ⟨w.heap.size + 1, 0, none⟩ = some (.pointer none) := by rw [hb3.cell (p := ⟨w.heap.size + 1, 0, none⟩) (by simp; omega)]; exact HF2.out
  have hn3 : (w3.setCell ⟨w.heap.size + 1, 0, none⟩ (.pointer (some ⟨b, 0, none⟩))).cell? ⟨w.heap.size, 0, none⟩ = some (.int .i64 n) := 
    (World.cell?_setCell_other _ _ _ _ (by simp)).trans ((hb3.cell (p := ⟨w.heap.size, 0, none⟩) (by simp; omega)).trans HN2.out)
  have hf4 : (w3.setCell ⟨w.heap.size + 1, 0, none⟩ (.pointer (some ⟨b, 0, none⟩))).cell? ⟨w.heap.size + 1, 0, none⟩ = some (.pointer (some ⟨b, 0, none⟩)) := World.cell?_setCell_same' _ _ _ (by rw [hf3]; rfl)
  have hc4 : (w3.setCell ⟨w.heap.size + 1, 0, none⟩ (.pointer (some ⟨b, 0, none⟩))).cell? ⟨b, 0, none⟩ = some (.string c) := (HB3.out.cell (p := ⟨b, 0, none⟩) hbl).trans HCC.out
  clear hf3 hb3
  generalize w3.setCell ⟨w.heap.size + 1, 0, none⟩ (.pointer (some ⟨b, 0, none⟩)) = w4 at *
  have hnn : (n == n) = true := by simp
  go_wp2
  go_ret
  exact ⟨rfl, HB3.out⟩


/-- tells, of what a function of the package says: it is the document's. -/
theorem tells_ans {w : World} (k : Int) (c : ByteArray) (E : Value) (h : ErrAns k c w E) (hg : Laid w) :
    Calls Tryz.prog 13 #[E, .int .i64 k, .string c] w fun e w' => e = .returned (.bool true) ∧ Below w.heap.size w w' := by
  rcases h with ⟨rfl, rfl⟩ | ⟨hk, ls, hc⟩
  · refine (tells_nil c).mono ?_
    rintro e w' ⟨rfl, rfl⟩
    exact ⟨rfl, Below.refl _ _⟩
  · exact tells_some k hk c ls E hc hg

end Go.Proofs.YtkhdjjcflbdegaaGreatDoor
end

section
/- The thirteenth layer's laws: what they have in common; awake. -/
namespace Go.Proofs.YtkhdjjcflbdegaaGreatDoor
open Go.RowKit Go.Extern.Stop Go.Stop Go.Extern

/-- A block of source symbols in memory of its own. -/
def BlkBox (W : World) (g : Nat) (n : Int) (v : Value) : Prop := W.heap[g]? = some (.cells #[.int .i64 n, v] 54 (0, 0))
theorem BlkBox.lt {W : World} {g : Nat} {n : Int} {v : Value} (b : BlkBox W g n v) : g < W.heap.size := (Array.getElem?_eq_some_iff.1 b).1
theorem BlkBox.mono {W W' : World} {g : Nat} {n : Int} {v : Value} (b : BlkBox W g n v) (hb : Below W.heap.size W W') : BlkBox W' g n v := (hb.block g b.lt).trans b
theorem BlkBox.cells {W : World} {g : Nat} {n : Int} {v : Value} (b : BlkBox W g n v) : W.cell? ⟨g, 0, none⟩ = some (.int .i64 n) ∧ W.cell? ⟨g, 1, none⟩ = some v := ⟨cell_of_heap b rfl, cell_of_heap b rfl⟩
theorem blk_laid (w : World) (n : Int) (v : Value) : ∃ W, W = w.alloc (.cells #[.int .i64 n, v] 54) ∧ Below w.heap.size w W ∧ BlkBox W w.heap.size n v :=
  ⟨_, rfl, (Below.refl _ _).alloc (Nat.le_refl _) _, heap_alloc_new w _⟩
theorem BlkBox.store {W : World} {g : Nat} {n : Int} {v : Value} (b : BlkBox W g n v) (n' : Int) (v' : Value) : BlkBox ((W.setCell ⟨g, 0, none⟩ (.int .i64 n')).setCell ⟨g, 1, none⟩ v') g n' v' :=
  heap_setCell_at (j := 1) (u := v') (heap_setCell_at (j := 0) (u := .int .i64 n') b)
theorem BlkBox.free {W : World} {g : Nat} {n : Int} {v : Value} (b : BlkBox W g n v) : W.frozen? ⟨g, 0, none⟩ = false ∧ W.frozen? ⟨g, 1, none⟩ = false := ⟨frozen_of_heap b, frozen_of_heap b⟩

/-- A block's numbers, its source symbols, its middle symbols. -/
structure BlkS (k s h l p sd size : Nat) (S V : List (List Nat)) : Prop where
  of : OfP k s h l p
  seed : IsSeed k s h l p sd
  k1 : 1 ≤ k
  k2 : k ≤ 128
  z1 : 1 ≤ size
  z2 : size ≤ 64
  len : S.length = k
  ok : SizeOk S size
  tells : Tells l size (sysE k s h l p sd size (fun t => S.getD t []) k) V
/-- What a decoder has of a block's encoding symbols. -/
noncomputable abbrev kdS (k s h l p sd size : Nat) (V : List (List Nat)) (es : List Nat) : List Vec := sysD k s h l p sd size (symE l p sd size V) es
section
variable {k s h l p sd size : Nat} {S V : List (List Nat)}
theorem BlkS.cons (x : BlkS k s h l p sd size S V) : Cons l (sysE k s h l p sd size (fun t => S.getD t []) k) := sysE_cons x.of.2.2.1 x.seed.2.1
theorem BlkS.src (x : BlkS k s h l p sd size S V) : ∀ e, e < k → (S.getD e []).length = size := fun e he => (x.ok _ (getD_mem_row (by rw [x.len]; exact he))).1
theorem BlkS.oct (x : BlkS k s h l p sd size S V) (e : Nat) : Octets (symE l p sd size V e) := symE_octets x.tells e
theorem BlkS.rk (x : BlkS k s h l p sd size S V) (es : List Nat) : rkP l (kdS k s h l p sd size V es) = rankA k s h l p sd es := sysD_rk x.of.2.2.1 es
theorem BlkS.add (x : BlkS k s h l p sd size S V) (es : List Nat) (e : Nat) : addV l (kdS k s h l p sd size V es) (eqL l (rowE l p sd e) (symE l p sd size V e)) = kdS k s h l p sd size V (es ++ [e]) := addV_src x.cons x.tells x.src es e
theorem BlkS.kind (x : BlkS k s h l p sd size S V) (es : List Nat) (e : Nat) : kindV l (kdS k s h l p sd size V es) (eqL l (rowE l p sd e) (symE l p sd size V e)) ≠ 3 := kind_src x.cons x.tells x.src es e
/-- What full rank tells is the source symbols. -/
theorem BlkS.source (x : BlkS k s h l p sd size S V) {es : List Nat} {U : List (List Nat)} (hU : Tells l size (kdS k s h l p sd size V es) U) : (List.range k).map (symE l p sd size U) = S := by
  obtain rfl := tells_in x.cons (sysD_in (p := p) (seed := sd) x.tells x.src es) hU x.tells
  apply List.ext_getElem (by simp [x.len])
  intro i h1 h2
  have hi : i < k := by simpa using h1
  rw [List.getElem_map, List.getElem_range]
  have := symbol_source (p := p) (seed := sd) x.tells x.cons hi (x.src i hi) (x.ok _ (getD_mem_row (by rw [x.len]; exact hi))).2
  rw [List.getD_eq_getElem?_getD, List.getElem?_eq_getElem h2] at this
  exact this
end

/-- An encoding symbol of the block comes. -/
def SrcAdds (w : World) (B g b kb k s h l p sd size : Nat) (V : List (List Nat)) (es : List Nat) (n : Nat) (o : Ending) (w' : World) : Prop :=
  ∃ kd : Nat, (kd = 1 ∨ kd = 2) ∧ o = .returned (.tuple #[.int .i64 (kd : Int), .nilIface]) ∧ rankA k s h l p sd (es ++ [n]) + kd = rankA k s h l p sd es + 2 ∧ DTouch g b kb w w' ∧ DecAt AnyB w' B g b kb k s h l p sd size (kdS k s h l p sd size V (es ++ [n])) false
theorem src_add {w : World} {B g b kb k s h l p sd size : Nat} {S V : List (List Nat)} {es : List Nat} (x : BlkS k s h l p sd size S V) (d : DecAt AnyB w B g b kb k s h l p sd size (kdS k s h l p sd size V es) false) (n : Nat) (hn : n < 65536) (v : Value) (hv : ListAt byteV w v (symE l p sd size V n)) (hT : DgTab w) (hB : Tab w) :
    Calls Tryz.prog 16 #[.pointer (some ⟨g, 0, none⟩), .int .i64 (n : Int), v] w (SrcAdds w B g b kb k s h l p sd size V es n) := by
  refine (DeAdd_ok d (fun _ _ => trivial) n hn v _ hv (symE_length ..) (x.oct n) hT hB).mono ?_
  rintro o w' ⟨rfl, ht, hd⟩
  have h3 := x.kind es n
  have hr := addR_rk l (kdS k s h l p sd size V es) (eqL l (rowE l p sd n) (symE l p sd size V n))
  rw [x.add, x.rk, x.rk] at hr
  rw [x.add, decide_eq_false h3] at hd
  unfold addR at hr
  rcases kindV_cases l (kdS k s h l p sd size V es) (eqL l (rowE l p sd n) (symE l p sd size V n)) with ⟨e, -⟩ | ⟨e, -⟩ | ⟨e, -⟩
  · rw [e] at hr
    exact ⟨1, .inl rfl, by rw [e], by rw [← hr, if_pos rfl], ht, hd⟩
  · rw [e] at hr
    exact ⟨2, .inr rfl, by rw [e], by rw [← hr, if_neg (by decide)], ht, hd⟩
  · exact absurd e h3

/-! ### the source symbols themselves, round -/
theorem rot_kind {k s h l p sd size c j : Nat} {y : Nat → List Nat} (H : OfP k s h l p) (hs : IsSeed k s h l p sd) (hk : 1 ≤ k) (hc : c < k) (hj : j < k) : kindV l (sysD k s h l p sd size y (rotL k c j)) (eqL l (rowE l p sd ((j + c) % k)) (y ((j + c) % k))) = 1 := by
  have hl := H.2.2.1
  refine kind_rise ?_
  rw [← sysD_snoc, ← rotL_succ, sysD_rk hl, sysD_rk hl, rank_rot hl hs.2.1 hk hc (by omega), rank_rot hl hs.2.1 hk hc (by omega)]
  omega
def RotAdds (w : World) (B g b kb k s h l p sd size c j : Nat) (y : Nat → List Nat) (o : Ending) (w' : World) : Prop :=
  o = .returned (.tuple #[.int .i64 1, .nilIface]) ∧ DTouch g b kb w w' ∧ DecAt AnyB w' B g b kb k s h l p sd size (sysD k s h l p sd size y (rotL k c (j + 1))) false
theorem rot_add {w : World} {B g b kb k s h l p sd size c j : Nat} {y : Nat → List Nat} (d : DecAt AnyB w B g b kb k s h l p sd size (sysD k s h l p sd size y (rotL k c j)) false) (hc : c < k) (hj : j < k) (v : Value) (hv : ListAt byteV w v (y ((j + c) % k))) (hy : (y ((j + c) % k)).length = size ∧ Octets (y ((j + c) % k))) (hT : DgTab w) (hB : Tab w) :
    Calls Tryz.prog 16 #[.pointer (some ⟨g, 0, none⟩), .int .i64 (((j + c) % k : Nat) : Int), v] w (RotAdds w B g b kb k s h l p sd size c j y) := by
  have hm : (j + c) % k < k := Nat.mod_lt _ (by omega)
  refine (DeAdd_ok d (fun _ _ => trivial) _ (by have := d.k2; omega) v _ hv hy.1 hy.2 hT hB).mono ?_
  rintro o w' ⟨rfl, ht, hd⟩
  have hk := rot_kind (size := size) (y := y) d.of d.seed d.k1 hc hj
  unfold addV at hd
  rw [hk, if_neg (by decide), ← sysD_snoc, ← rotL_succ] at hd
  exact ⟨by rw [hk]; rfl, ht, hd⟩
theorem rot_rk {k s h l p sd size c j : Nat} {y : Nat → List Nat} (H : OfP k s h l p) (hs : IsSeed k s h l p sd) (hk : 1 ≤ k) (hc : c < k) (hj : j ≤ k) : rkP l (sysD k s h l p sd size y (rotL k c j)) = s + h + j := by
  rw [sysD_rk H.2.2.1, rank_rot H.2.2.1 hs.2.1 hk hc hj]
theorem rot_source {A : Nat → Prop} {w : World} {B g b kb k s h l p sd size c : Nat} {y : Nat → List Nat} {V : List (List Nat)} (d : DecAt A w B g b kb k s h l p sd size (sysD k s h l p sd size y (rotL k c k)) false) (hc : c < k) (hy : ∀ e, e < k → (y e).length = size ∧ Octets (y e)) (hV : Tells l size (sysD k s h l p sd size y (rotL k c k)) V) : (List.range k).map (symE l p sd size V) = (List.range k).map y :=
  List.map_congr_left fun e he => symE_holds hV d.sys.sys.cons (hy e (List.mem_range.1 he)).1 (hy e (List.mem_range.1 he)).2 (.mem (sysD_mem ((rotL_mem d.k1 hc e).2 he)))
/-- A decoder that has just been made. -/
theorem DecAt.fresh {A : Nat → Prop} {w : World} {B g b kb k s h l p sd size : Nat} (d : DecAt A w B g b kb k s h l p sd size (sysF k s h l size) false) (y : Nat → List Nat) : DecAt A w B g b kb k s h l p sd size (sysD k s h l p sd size y []) false := by
  rw [sysD_nil]
  exact d

/-- A number as that of an encoding symbol. -/
def esiN (x : Int) : Nat := (x % 65536).toNat
theorem esiN_lt (x : Int) : esiN x < 65536 := by unfold esiN; omega
theorem esi_mod (x : Int) : (IntKind.u64.wrap x).tmod 65536 = (esiN x : Int) := by
  have hw : 0 ≤ IntKind.u64.wrap x := by rw [IntKind.wrap_u64]; omega
  rw [Int.tmod_eq_emod_of_nonneg hw, IntKind.wrap_u64]
  unfold esiN
  omega

/-- The two symbols 01, 02, laid. -/
theorem twos_at (w : World) : ∃ W, W = ((w.alloc (.cells #[.int .u8 1] 5)).alloc (.cells #[.int .u8 2] 5)).alloc (.cells #[.slice (some ⟨w.heap.size, 0, none⟩) 1 1, .slice (some ⟨w.heap.size + 1, 0, none⟩) 1 1] 37) ∧
    MatAt byteV W (.slice (some ⟨w.heap.size + 1 + 1, 0, none⟩) 2 2) [[1], [2]] ∧ Below w.heap.size w W := by
  have z1 : (w.alloc (.cells #[.int .u8 1] 5)).heap.size = w.heap.size + 1 := World.size_alloc _ _
  have z2 : ((w.alloc (.cells #[.int .u8 1] 5)).alloc (.cells #[.int .u8 2] 5)).heap.size = w.heap.size + 1 + 1 := by rw [World.size_alloc, z1]
  have l1 : ListAt byteV (w.alloc (.cells #[.int .u8 1] 5)) (.slice (some ⟨w.heap.size, 0, none⟩) 1 1) [1] :=
    ListAt.of_owns (f := byteV) (l := [1]) (own_of_heap (base := w.heap.size) (e := 5) (Nat.le_refl _) rfl (by decide) (heap_alloc_new w (.cells #[.int .u8 1] 5)))
  have h2 := heap_alloc_new (w.alloc (.cells #[.int .u8 1] 5)) (.cells #[.int .u8 2] 5)
  rw [z1] at h2
  have l2 : ListAt byteV ((w.alloc (.cells #[.int .u8 1] 5)).alloc (.cells #[.int .u8 2] 5)) (.slice (some ⟨w.heap.size + 1, 0, none⟩) 1 1) [2] :=
    ListAt.of_owns (f := byteV) (l := [2]) (own_of_heap (base := w.heap.size) (e := 5) (Nat.le_succ _) rfl (by decide) h2)
  have hp := pair_mat (l1.mono ((Below.refl _ _).alloc (Nat.le_refl _) (.cells #[.int .u8 2] 5))) l2
  rw [z2] at hp
  exact ⟨_, rfl, hp, (((Below.refl _ w).alloc (Nat.le_refl _) _).alloc (by omega) _).alloc (by omega) _⟩
/-- One byte, laid. -/
theorem byte_at (w : World) (x : Nat) (z : Int) (hz : z = (x : Int)) : ∃ W, W = w.alloc (.cells #[.int .u8 z] 5) ∧ ListAt byteV W (.slice (some ⟨w.heap.size, 0, none⟩) 1 1) [x] ∧ Below w.heap.size w W := by
  subst hz
  exact ⟨_, rfl, ListAt.of_owns (f := byteV) (l := [x]) (own_of_heap (base := w.heap.size) (e := 5) (Nat.le_refl _) rfl (by decide) (heap_alloc_new w (.cells #[.int .u8 (x : Int)] 5))), (Below.refl _ w).alloc (Nat.le_refl _) _⟩
theorem octets_one {x : Nat} (h : x < 256) : [x].length = 1 ∧ Octets [x] := ⟨rfl, fun y hy => by rw [List.mem_singleton.1 hy]; exact h⟩

set_option maxRecDepth 1000000 in
set_option maxHeartbeats 4000000 in
theorem awake13 (w : World) (hT : DgTab w) (hB : Tab w) : Calls Tryz.prog 10 #[] w fun e w' => e = .returned (.bool true) ∧ Below w.heap.size w w' := by
  have HT := Lib.hid hT
  have HBT := Lib.hid hB
  have HNW := Lib.hid (DeNew_ok (w := w) 2 1 (by decide) (by decide) (by decide) (by decide) hT hB)
  clear hT hB
  go_enter Tryz.func10, Tryz.ntmps10
  go_wp2_with fail
  refine HNW.out.mono ?_
  rintro e w1 ⟨g, b, kb, s, h, l, p, sd, rfl, hd1, hb1⟩
  have HB1 := Lib.hid hb1
  obtain ⟨W1, hW1, hl1, hbW1⟩ := byte_at w1 1 1 rfl
  have HW1 := Lib.hid hW1
  have HL1 := Lib.hid hl1
  have hbb := hb1.trans (hbW1.mono hb1.size)
  have HBB1 := Lib.hid hbb
  have HD1 := Lib.hid ((hd1.fresh fun e => [e + 1]).mono hbW1)
  have HA1 : Hid (Calls Tryz.prog 16 #[.pointer (some ⟨g, 0, none⟩), .int .i64 0, .slice (some ⟨w1.heap.size, 0, none⟩) 1 1] W1 (RotAdds W1 w.heap.size g b kb 2 s h l p sd 1 0 0 fun e => [e + 1])) := Lib.hid (rot_add (c := 0) (j := 0) (y := fun e => [e + 1]) HD1.out (by decide) (by decide) _ hl1 (octets_one (by decide)) (PairsAt.mono HT.out hbb) (HBT.out.mono hbb))
  clear hd1 hb1 hW1 hl1 hbW1 hbb
  go_wp2_with fail
  rw [← HW1.out]
  refine HA1.out.mono ?_
  rintro e w2 ⟨rfl, ht2, hd2⟩
  have hb2 := ht2.below hd2.gg hd2.gb hd2.gk HBB1.out.size
  have hb02 := HBB1.out.trans hb2
  have HB2 := Lib.hid hb02
  obtain ⟨W2, hW2, hl2, hbW2⟩ := byte_at w2 2 2 rfl
  have HW2 := Lib.hid hW2
  have hbb := hb02.trans (hbW2.mono hb02.size)
  have HBB2 := Lib.hid hbb
  have HA2 : Hid (Calls Tryz.prog 16 #[.pointer (some ⟨g, 0, none⟩), .int .i64 1, .slice (some ⟨w2.heap.size, 0, none⟩) 1 1] W2 (RotAdds W2 w.heap.size g b kb 2 s h l p sd 1 0 1 fun e => [e + 1])) := Lib.hid (rot_add (c := 0) (j := 1) (y := fun e => [e + 1]) (hd2.mono hbW2) (by decide) (by decide) _ hl2 (octets_one (by decide)) (PairsAt.mono HT.out hbb) (HBT.out.mono hbb))
  clear ht2 hd2 hb2 hb02 hW2 hl2 hbW2 hbb
  go_wp2_with fail
  rw [← HW2.out]
  refine HA2.out.mono ?_
  rintro e w3 ⟨rfl, ht3, hd3⟩
  have hb3 := HBB2.out.trans (ht3.below hd3.gg hd3.gb hd3.gk HBB2.out.size)
  have HB3 := Lib.hid hb3
  have HD3 := Lib.hid hd3
  have HS3 := Lib.hid (DeSrc_ok hd3 (by rw [rot_rk hd3.of hd3.seed hd3.k1 (by decide) (by decide)]; have := hd3.of.2.2.1; omega) (PairsAt.mono HT.out hb3))
  clear ht3 hd3 hb3
  go_wp2_with fail
  refine HS3.out.mono ?_
  rintro e w4 ⟨v4, V, rfl, htl, hm4, hb4⟩
  rw [rot_source HD3.out (by decide) (fun e he => octets_one (by omega)) htl] at hm4
  obtain ⟨W4, hW4, hm5, hbW4⟩ := twos_at w4
  have HW4 := Lib.hid hW4
  have hb34 := HB3.out.trans (hb4.mono HB3.out.size)
  have HB4 := Lib.hid (hb34.trans (hbW4.mono hb34.size))
  have HSM := Lib.hid (sSame_any (w := W4) v4 _ [[1], [2]] (hm4.mono hbW4) hm5)
  obtain ⟨a4, q4, rfl, -, -, -⟩ := hm4.opens
  clear htl hm4 hb4 hW4 hm5 hbW4 hb34
  go_wp2_with fail
  rw [← HW4.out]
  refine HSM.out.mono ?_
  rintro e w5 ⟨rfl, hb5⟩
  have HB5 := Lib.hid (HB4.out.trans (hb5.mono HB4.out.size))
  clear hb5
  go_wp2
  go_ret
  exact ⟨rfl, HB5.out⟩
end Go.Proofs.YtkhdjjcflbdegaaGreatDoor
end
