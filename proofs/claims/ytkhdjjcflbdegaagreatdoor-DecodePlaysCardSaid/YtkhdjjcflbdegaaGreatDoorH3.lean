import Derived.Test.YtkhdjjcflbdegaaGreatDoorG25
import Derived.Test.YtkhdjjcflbdegaaGreatDoorG28
import Derived.Test.YtkhdjjcflbdegaaGreatDoorH1
import Derived.Test.YtkhdjjcflbdegaaGreatDoorH2
import Derived.Test.YtkhdjjcflbdegaaGreatDoorG21
import Derived.Test.YtkhdjjcflbdegaaGreatDoorG20
import Derived.Test.YtkhdjjcflbdegaaGreatDoorG31
import Derived.Deep.RegionHeld3

section
/- Package decode: a decoder in memory (DecAt); row, Rank, Lacks, Clashed, Done. -/
namespace Go.Proofs.YtkhdjjcflbdegaaGreatDoor
open Go.RowKit Go.Extern.Stop Go.Stop Go.Extern

def nameDeNew : ByteArray := ⟨#[100, 101, 99, 111, 100, 101, 46, 78, 101, 119]⟩
def nameDeAdd : ByteArray := ⟨#[100, 101, 99, 111, 100, 101, 46, 65, 100, 100]⟩
def nameDeSource : ByteArray := ⟨#[100, 101, 99, 111, 100, 101, 46, 83, 111, 117, 114, 99, 101]⟩

/-- A decoder in a block of its own. -/
def DecBox (W : World) (g : Nat) (k s h l p sd size : Int) (b : Nat) (lk : Int) : Prop :=
  W.heap[g]? = some (.cells #[.int .i64 k, .int .i64 s, .int .i64 h, .int .i64 l, .int .i64 p, .int .i64 sd, .int .i64 size, sysP b, .int .i64 lk] 82 (0, 0))
section
variable {W W' : World} {g b : Nat} {k s h l p sd size lk : Int}
theorem DecBox.lt (x : DecBox W g k s h l p sd size b lk) : g < W.heap.size := (Array.getElem?_eq_some_iff.1 x).1
theorem DecBox.mono (x : DecBox W g k s h l p sd size b lk) (hb : Below W.heap.size W W') : DecBox W' g k s h l p sd size b lk := (hb.block g x.lt).trans x
theorem DecBox.cells (x : DecBox W g k s h l p sd size b lk) :
    W.cell? ⟨g, 0, none⟩ = some (.int .i64 k) ∧ W.cell? ⟨g, 1, none⟩ = some (.int .i64 s) ∧ W.cell? ⟨g, 2, none⟩ = some (.int .i64 h) ∧ W.cell? ⟨g, 3, none⟩ = some (.int .i64 l) ∧ W.cell? ⟨g, 4, none⟩ = some (.int .i64 p) ∧
      W.cell? ⟨g, 5, none⟩ = some (.int .i64 sd) ∧ W.cell? ⟨g, 6, none⟩ = some (.int .i64 size) ∧ W.cell? ⟨g, 7, none⟩ = some (sysP b) ∧ W.cell? ⟨g, 8, none⟩ = some (.int .i64 lk) :=
  ⟨cell_of_heap x rfl, cell_of_heap x rfl, cell_of_heap x rfl, cell_of_heap x rfl, cell_of_heap x rfl, cell_of_heap x rfl, cell_of_heap x rfl, cell_of_heap x rfl, cell_of_heap x rfl⟩
theorem DecBox.free (x : DecBox W g k s h l p sd size b lk) (j : Nat) : W.frozen? ⟨g, j, none⟩ = false := frozen_of_heap x
theorem DecBox.less (x : DecBox W g k s h l p sd size b lk) (n : Int) : DecBox (W.setCell ⟨g, 8, none⟩ (.int .i64 n)) g k s h l p sd size b n := heap_setCell_at (j := 8) (u := .int .i64 n) x
end

/-- Nothing has turned but these three blocks. -/
structure DTouch (g b kb : Nat) (w w' : World) : Prop where
  os : w'.os = w.os
  tape : w'.tape = w.tape
  output : w'.output = w.output
  size : w.heap.size ≤ w'.heap.size
  block : ∀ x, x < w.heap.size → x ≠ g → x ≠ b → x ≠ kb → w'.heap[x]? = w.heap[x]?
section
variable {g b kb : Nat} {w w' x : World}
theorem DTouch.of (h : Below w.heap.size w w') : DTouch g b kb w w' := ⟨h.os, h.tape, h.output, h.size, fun k hk _ _ _ => h.block k hk⟩
theorem DTouch.touch (h : Touch b kb w w') : DTouch g b kb w w' := ⟨h.os, h.tape, h.output, h.size, fun k hk _ h1 h2 => h.block k hk h1 h2⟩
theorem DTouch.trans (h : DTouch g b kb w w') (k : DTouch g b kb w' x) : DTouch g b kb w x :=
  ⟨k.os.trans h.os, k.tape.trans h.tape, k.output.trans h.output, Nat.le_trans h.size k.size, fun i hi h1 h2 h3 => (k.block i (Nat.lt_of_lt_of_le hi h.size) h1 h2 h3).trans (h.block i hi h1 h2 h3)⟩
theorem DTouch.set (h : DTouch g b kb w w') (j : Nat) (u : Value) : DTouch g b kb w (w'.setCell ⟨g, j, none⟩ u) :=
  h.trans ⟨rfl, rfl, rfl, by simp [World.setCell], fun k _ h1 _ _ => Below.heap_setCell _ _ _ _ h1⟩
theorem DTouch.drew (h : DTouch g b kb w w') : DTouch g b kb w w'.drew := ⟨h.os, h.tape, h.output, h.size, h.block⟩
theorem DTouch.below {B : Nat} (h : DTouch g b kb w w') (h1 : B ≤ g) (h2 : B ≤ b) (h3 : B ≤ kb) (h4 : B ≤ w.heap.size) : Below B w w' := ⟨h.os, h.tape, h.output, h.size, fun k hk => h.block k (by omega) (by omega) (by omega) (by omega)⟩
end

/-- A decoder of a block, by what its equations span: all of it in memory from block B on. -/
structure DecAt (A : Nat → Prop) (w : World) (B g b kb k s h l p sd size : Nat) (K : List Vec) (cl : Bool) : Prop where
  box : DecBox w g k s h l p sd size b ((l - rkP l K : Nat) : Int)
  sys : SysA A w b l size K (rkP l K) cl kb
  gg : B ≤ g
  gb : B ≤ b
  gk : B ≤ kb
  of : OfP k s h l p
  seed : IsSeed k s h l p sd
  k1 : 1 ≤ k
  k2 : k ≤ 128
  z1 : 1 ≤ size
  z2 : size ≤ 64
/-- All blocks. -/
abbrev AnyB : Nat → Prop := fun _ => True
section
variable {A : Nat → Prop} {w w' : World} {B g b kb k s h l p sd size : Nat} {K : List Vec} {cl : Bool}
theorem DecAt.mono (d : DecAt A w B g b kb k s h l p sd size K cl) (hb : Below w.heap.size w w') : DecAt A w' B g b kb k s h l p sd size K cl :=
  ⟨d.box.mono hb, d.sys.mono hb, d.gg, d.gb, d.gk, d.of, d.seed, d.k1, d.k2, d.z1, d.z2⟩
theorem Sys.kinds {n r : Nat} (hs : Sys w b n size K r cl kb) : (∃ cur, w.heap[b]? = some (.cells cur 111 (0, 0))) ∧ ∃ cur, w.heap[kb]? = some (.cells cur 120 (0, 0)) := by
  obtain ⟨f, rv, sv, h1, -, -⟩ := hs
  exact ⟨⟨_, h1.obj⟩, h1.kobj⟩
/-- A block of another kind. -/
theorem DecAt.kind (d : DecAt A w B g b kb k s h l p sd size K cl) (ht : DTouch g b kb w w') {x : Nat} {cur : Array Value} {e : TypeId} (he : e ≠ 82 ∧ e ≠ 111 ∧ e ≠ 120) (hx : w.heap[x]? = some (.cells cur e (0, 0))) : w'.heap[x]? = w.heap[x]? := by
  obtain ⟨⟨c1, k1⟩, ⟨c2, k2⟩⟩ := d.sys.sys.kinds
  have k3 : w.heap[g]? = some (.cells _ 82 (0, 0)) := d.box
  refine ht.block x (Array.getElem?_eq_some_iff.1 hx).1 (fun e1 => ?_) (fun e1 => ?_) (fun e1 => ?_)
  · rw [e1, k3] at hx; simp at hx; exact he.1 hx.2.symm
  · rw [e1, k1] at hx; simp at hx; exact he.2.1 hx.2.symm
  · rw [e1, k2] at hx; simp at hx; exact he.2.2 hx.2.symm
theorem DecAt.own {base m : Nat} {e : TypeId} {v : Value} {xs : List Value} (d : DecAt A w B g b kb k s h l p sd size K cl) (ht : DTouch g b kb w w') (he : e ≠ 82 ∧ e ≠ 111 ∧ e ≠ 120) (ho : w.ownsRow base e 1 v m xs) : w'.ownsRow base e 1 v m xs :=
  own_same ho fun _ _ hg => d.kind ht he hg
theorem DecAt.kout (d : DecAt A w B g b kb k s h l p sd size K cl) {x : Nat} {cur : Array Value} {e : TypeId} (hx : w.heap[x]? = some (.cells cur e (0, 0))) : (e ≠ 82 → x ≠ g) ∧ (e ≠ 111 → x ≠ b) ∧ (e ≠ 120 → x ≠ kb) := by
  obtain ⟨⟨c1, k1⟩, ⟨c2, k2⟩⟩ := d.sys.sys.kinds
  have k3 : w.heap[g]? = some (.cells _ 82 (0, 0)) := d.box
  refine ⟨fun he e1 => ?_, fun he e1 => ?_, fun he e1 => ?_⟩
  · rw [e1, k3] at hx; simp at hx; exact he hx.2.symm
  · rw [e1, k1] at hx; simp at hx; exact he hx.2.symm
  · rw [e1, k2] at hx; simp at hx; exact he hx.2.symm
/-- Another decoder is touched. -/
theorem DecAt.other {A' : Nat → Prop} {B' g' b' kb' k' s' h' l' p' sd' size' : Nat} {K' : List Vec} {cl' : Bool} (d : DecAt A w B g b kb k s h l p sd size K cl) (ht : DTouch g b kb w w') (d' : DecAt A' w B' g' b' kb' k' s' h' l' p' sd' size' K' cl') (hg : g' ≠ g) (hb : b' ≠ b) (hk : kb' ≠ kb) : DecAt A' w' B' g' b' kb' k' s' h' l' p' sd' size' K' cl' := by
  obtain ⟨⟨c1, k1⟩, ⟨c2, k2⟩⟩ := d'.sys.sys.kinds
  have k3 : w.heap[g']? = some (.cells _ 82 (0, 0)) := d'.box
  have o1 := d.kout k1
  have o2 := d.kout k2
  have o3 := d.kout k3
  refine ⟨(ht.block g' (Array.getElem?_eq_some_iff.1 k3).1 hg (o3.2.1 (by decide)) (o3.2.2 (by decide))).trans k3, d'.sys.keep2 (ht.block b' d'.sys.sys.base.1 (o1.1 (by decide)) hb (o1.2.2 (by decide))) (ht.block kb' d'.sys.sys.base.2.1 (o2.1 (by decide)) (o2.2.1 (by decide)) hk) (fun x cur e he _ hx => d.kind ht (by rcases he with rfl | rfl <;> decide) hx), d'.gg, d'.gb, d'.gk, d'.of, d'.seed, d'.k1, d'.k2, d'.z1, d'.z2⟩
theorem DecAt.any (d : DecAt A w B g b kb k s h l p sd size K cl) : DecAt AnyB w B g b kb k s h l p sd size K cl :=
  ⟨d.box, d.sys.weaken fun _ _ => trivial, d.gg, d.gb, d.gk, d.of, d.seed, d.k1, d.k2, d.z1, d.z2⟩
theorem DecAt.here {A' : Nat → Prop} (d : DecAt A w B g b kb k s h l p sd size K cl) (hA : ∀ g, g < w.heap.size → A' g) : DecAt A' w B g b kb k s h l p sd size K cl :=
  ⟨d.box, d.sys.sys.here hA, d.gg, d.gb, d.gk, d.of, d.seed, d.k1, d.k2, d.z1, d.z2⟩
/-- Nothing has turned that A names, nor its own blocks. -/
theorem DecAt.keep (d : DecAt A w B g b kb k s h l p sd size K cl) (h0 : w'.heap[g]? = w.heap[g]?) (h1 : w'.heap[b]? = w.heap[b]?) (h2 : w'.heap[kb]? = w.heap[kb]?) (hs : ∀ x, A x → x < w.heap.size → w'.heap[x]? = w.heap[x]?) : DecAt A w' B g b kb k s h l p sd size K cl :=
  ⟨h0.trans d.box, d.sys.keep h1 h2 hs, d.gg, d.gb, d.gk, d.of, d.seed, d.k1, d.k2, d.z1, d.z2⟩
theorem DecAt.lts (d : DecAt A w B g b kb k s h l p sd size K cl) : g < w.heap.size ∧ b < w.heap.size ∧ kb < w.heap.size := ⟨d.box.lt, d.sys.sys.base.1, d.sys.sys.base.2.1⟩
end

theorem DeClashed_nil {w : World} : Calls Tryz.prog 21 #[nilP] w fun e w' => e = .returned (.bool false) ∧ w = w' := by
  go_enter Tryz.func21, Tryz.ntmps21
  go_wp2
  go_ret
  exact ⟨rfl, rfl⟩
theorem DeClashed_any {A : Nat → Prop} {w : World} {B g b kb k s h l p sd size : Nat} {K : List Vec} {cl : Bool} (d : DecAt A w B g b kb k s h l p sd size K cl) :
    Calls Tryz.prog 21 #[.pointer (some ⟨g, 0, none⟩)] w fun e w' => e = .returned (.bool cl) ∧ w = w' := by
  obtain ⟨-, -, -, -, -, -, -, c7, -⟩ := d.box.cells
  have HC := Lib.hid d.sys.sys.cells.2.2.2.2
  clear d
  go_enter Tryz.func21, Tryz.ntmps21
  go_wp2_with fail
  refine (Clashed_any b cl HC.out).mono ?_
  rintro e w1 ⟨rfl, rfl⟩
  go_wp2
  go_ret
  exact ⟨rfl, rfl⟩

theorem DeRank_nil {w : World} : Calls Tryz.prog 17 #[nilP] w fun e w' => e = .returned (.int .i64 0) ∧ w = w' := by
  go_enter Tryz.func17, Tryz.ntmps17
  go_wp2
  go_ret
  exact ⟨rfl, rfl⟩
theorem DeRank_any {A : Nat → Prop} {w : World} {B g b kb k s h l p sd size : Nat} {K : List Vec} {cl : Bool} (d : DecAt A w B g b kb k s h l p sd size K cl) :
    Calls Tryz.prog 17 #[.pointer (some ⟨g, 0, none⟩)] w fun e w' => e = .returned (.int .i64 (rkP l K : Nat)) ∧ ∃ m, w' = w.drewN m := by
  obtain ⟨-, -, -, c3, -, -, -, -, c8⟩ := d.box.cells
  have hr := rkP_le l K
  have hl := d.sys.sys.base.2.2.2.2.1
  clear d
  generalize rkP l K = r at *
  obtain ⟨m, rfl⟩ : ∃ m, l = r + m := ⟨l - r, by omega⟩
  rw [show r + m - r = m by omega] at c8
  obtain ⟨L, hL⟩ : ∃ L : Int, L = ((r + m : Nat) : Int) := ⟨_, rfl⟩
  rw [← hL] at c3
  have hw : IntKind.i64.wrap (L - (m : Int)) = (r : Int) := by rw [IntWalk.i64_in _ (by omega)]; omega
  clear hL
  go_enter Tryz.func17, Tryz.ntmps17
  go_wp2_with fail
  go_quiet (fail)
  go_wp2
  go_ret
  exact ⟨rfl, _, rfl⟩

theorem DeLacks_nil {w : World} : Calls Tryz.prog 18 #[nilP] w fun e w' => e = .returned (.int .i64 0) ∧ w = w' := by
  go_enter Tryz.func18, Tryz.ntmps18
  go_wp2
  go_ret
  exact ⟨rfl, rfl⟩
theorem DeLacks_any {A : Nat → Prop} {w : World} {B g b kb k s h l p sd size : Nat} {K : List Vec} {cl : Bool} (d : DecAt A w B g b kb k s h l p sd size K cl) :
    Calls Tryz.prog 18 #[.pointer (some ⟨g, 0, none⟩)] w fun e w' => e = .returned (.int .i64 ((l - rkP l K : Nat) : Int)) ∧ w = w' := by
  obtain ⟨-, -, -, -, -, -, -, -, c8⟩ := d.box.cells
  clear d
  generalize l - rkP l K = m at *
  go_enter Tryz.func18, Tryz.ntmps18
  go_wp2
  go_ret
  exact ⟨rfl, rfl⟩

theorem DeDone_nil {w : World} : Calls Tryz.prog 19 #[nilP] w fun e w' => e = .returned (.bool false) ∧ w = w' := by
  go_enter Tryz.func19, Tryz.ntmps19
  go_wp2
  go_ret
  exact ⟨rfl, rfl⟩
/-- Is a system of n unknown ones done? -/
noncomputable def doneB (n : Nat) (K : List Vec) (cl : Bool) : Bool := decide (rkP n K = n) && !cl
theorem DeDone_any {A : Nat → Prop} {w : World} {B g b kb k s h l p sd size : Nat} {K : List Vec} {cl : Bool} (d : DecAt A w B g b kb k s h l p sd size K cl) :
    Calls Tryz.prog 19 #[.pointer (some ⟨g, 0, none⟩)] w fun e w' => e = .returned (.bool (doneB l K cl)) ∧ w = w' := by
  obtain ⟨-, -, -, -, -, -, -, -, c8⟩ := d.box.cells
  have HC := Lib.hid (DeClashed_any d)
  have hr := rkP_le l K
  clear d
  unfold doneB
  generalize rkP l K = r at *
  obtain ⟨m, rfl⟩ : ∃ m, l = r + m := ⟨l - r, by omega⟩
  rw [show r + m - r = m by omega] at c8
  by_cases hm : m = 0
  · subst hm
    go_enter Tryz.func19, Tryz.ntmps19
    go_wp2_with fail
    refine HC.out.mono ?_
    rintro e w1 ⟨rfl, rfl⟩
    go_wp2
    go_ret
    exact ⟨by simp, rfl⟩
  · have hb : ((m : Int) == 0) = false := by rw [beq_eq_false_iff_ne]; omega
    clear HC
    go_enter Tryz.func19, Tryz.ntmps19
    go_wp2
    go_ret
    exact ⟨by simp; omega, rfl⟩

set_option maxRecDepth 1000000 in
set_option maxHeartbeats 4000000 in
theorem DeRow_ok {w : World} {g b k s h l p sd : Nat} {size lk : Int} (hx : DecBox w g k s h l p sd size b lk) (H : OfP k s h l p) (hk1 : 1 ≤ k) (hk2 : k ≤ 128) (hs : sd < 65536) (n : Nat) (hn : n < 65536) (hT : DgTab w) :
    Calls Tryz.prog 43 #[.pointer (some ⟨g, 0, none⟩), .int .i64 (n : Int)] w fun e w' => ∃ a c, e = .returned (.tuple #[.slice a (kOf l) c, .nilIface]) ∧ w'.ownsRow w.heap.size 163 1 (.slice a (kOf l) c) (kOf l) ((packR l (rowE l p sd n)).map wordV) ∧ Below w.heap.size w w' := by
  obtain ⟨b1, b2, b3, b4, b5, b6, b7⟩ := H.bounds hk1 hk2
  have hbd : Below w.heap.size w w.drew := (Below.refl _ _).drew
  have HBD := Lib.hid hbd
  have HRW : Hid (Calls Tryz.prog 82 #[.agg #[.int .i64 (k : Int), .int .i64 (s : Int), .int .i64 (h : Int), .int .i64 (l : Int), .int .i64 (p : Int)], .int .i64 (sd : Int), .int .i64 (n : Int)] w.drew fun e w' => ∃ v', e = .returned (.tuple #[v', .nilIface]) ∧ ListAt colV w' v' (rowE l p sd n) ∧ Below w.heap.size w w') := Lib.hid (by
    refine (Row_ok k s h l p sd n H hk1 hk2 hs hn (PairsAt.mono hT hbd)).mono ?_
    rintro e w' ⟨v', W, rfl, htr, hl, hb⟩
    refine ⟨v', rfl, ?_, hbd.trans (hb.mono hbd.size)⟩
    unfold rowE
    rw [walkE_eq htr]
    exact listAt_col hl)
  obtain ⟨c0, c1, c2, c3, c4, c5, -, -, -⟩ := hx.cells
  have hlt := hx.lt
  have HSAT : Hid (∀ V, Below w.heap.size w V → V.cell? ⟨g, 0, none⟩ = some (.int .i64 (k : Int)) ∧ V.cell? ⟨g, 1, none⟩ = some (.int .i64 (s : Int)) ∧ V.cell? ⟨g, 2, none⟩ = some (.int .i64 (h : Int)) ∧ V.cell? ⟨g, 3, none⟩ = some (.int .i64 (l : Int)) ∧ V.cell? ⟨g, 4, none⟩ = some (.int .i64 (p : Int)) ∧ V.cell? ⟨g, 5, none⟩ = some (.int .i64 (sd : Int))) := Lib.hid fun V hV => ⟨(hV.cell (p := ⟨g, 0, none⟩) hlt).trans c0, (hV.cell (p := ⟨g, 1, none⟩) hlt).trans c1, (hV.cell (p := ⟨g, 2, none⟩) hlt).trans c2, (hV.cell (p := ⟨g, 3, none⟩) hlt).trans c3, (hV.cell (p := ⟨g, 4, none⟩) hlt).trans c4, (hV.cell (p := ⟨g, 5, none⟩) hlt).trans c5⟩
  have HSD : Hid (w.drew.cell? ⟨g, 0, none⟩ = some (.int .i64 (k : Int)) ∧ w.drew.cell? ⟨g, 1, none⟩ = some (.int .i64 (s : Int)) ∧ w.drew.cell? ⟨g, 2, none⟩ = some (.int .i64 (h : Int)) ∧ w.drew.cell? ⟨g, 3, none⟩ = some (.int .i64 (l : Int)) ∧ w.drew.cell? ⟨g, 4, none⟩ = some (.int .i64 (p : Int)) ∧ w.drew.cell? ⟨g, 5, none⟩ = some (.int .i64 (sd : Int))) := Lib.hid ⟨c0, c1, c2, c3, c4, c5⟩
  have HN : Hid ((∀ c ∈ rowE l p sd n, c < l) ∧ (rowE l p sd n).Nodup) := Lib.hid ⟨rowE_lt, rowE_nodup _ _ _ _⟩
  have hls : l ≤ 4096 := by omega
  clear hx H hT hbd hk1 hk2 hs hn b1 b2 b3 b4 b5 b6 b7
  generalize rowE l p sd n = R at *
  go_enter Tryz.func43, Tryz.ntmps43
  go_wp2_with fail
  go_region_held3 (fun w' => w'.cell? ⟨g, 0, none⟩ = some (.int .i64 (k : Int)) ∧ w'.cell? ⟨g, 1, none⟩ = some (.int .i64 (s : Int)) ∧ w'.cell? ⟨g, 2, none⟩ = some (.int .i64 (h : Int)) ∧ w'.cell? ⟨g, 3, none⟩ = some (.int .i64 (l : Int)) ∧ w'.cell? ⟨g, 4, none⟩ = some (.int .i64 (p : Int)) ∧ w'.cell? ⟨g, 5, none⟩ = some (.int .i64 (sd : Int)))
    (first | exact HSD.out | exact HSAT.out _ HB3.out | go_keep)
    (first
    | (go_at_call 82; (with_reducible refine HRW.out.mono ?_); rintro e w3 ⟨v3, rfl, hl3, hb3⟩; have HL3 := Lib.hid hl3; have HB3 := Lib.hid hb3; obtain ⟨a3, q3, rfl, -, -, -⟩ := hl3; clear hb3))
  all_goals
    have HPK := Lib.hid (Pack_row _ R l HL3.out hls HN.out.1 HN.out.2)
    clear c0 c1 c2 c3 c4 c5
    obtain ⟨c0, c1, c2, c3, c4, c5⟩ := HSAT.out _ HB3.out
    have hsz := HB3.out.size
    go_wp2_with fail
    refine HPK.out.mono ?_
    rintro e w4 ⟨rfl, ho, hb4⟩
    have HO := Lib.hid ho
    have HB4 := Lib.hid (HB3.out.trans (hb4.mono hsz))
    clear ho hb4
    go_wp2
    go_ret2
    exact ⟨_, _, rfl, ownsRow_base HO.out hsz, HB4.out⟩

set_option maxRecDepth 1000000 in
set_option maxHeartbeats 4000000 in
theorem DeRow_no {w : World} {g b k s h l p sd : Nat} {size lk : Int} (hx : DecBox w g k s h l p sd size b lk) (hk2 : k ≤ 128) (n : Int) (hn : n < 0 ∨ 65536 ≤ n) :
    Calls Tryz.prog 43 #[.pointer (some ⟨g, 0, none⟩), .int .i64 n] w (NoSays 1 nameLRow nilS w) := by
  have hbd : Below w.heap.size w w.drew := (Below.refl _ _).drew
  have HBD := Lib.hid hbd
  have HRW : Hid (Calls Tryz.prog 82 #[.agg #[.int .i64 (k : Int), .int .i64 (s : Int), .int .i64 (h : Int), .int .i64 (l : Int), .int .i64 (p : Int)], .int .i64 (sd : Int), .int .i64 n] w.drew (NoSays 1 nameLRow nilS w.drew)) := Lib.hid (lRow_no k s h l p sd n (by omega) (by rcases hn with h | h <;> omega))
  obtain ⟨c0, c1, c2, c3, c4, c5, -, -, -⟩ := hx.cells
  have hlt := hx.lt
  have HSAT : Hid (∀ V, Below w.heap.size w V → V.cell? ⟨g, 0, none⟩ = some (.int .i64 (k : Int)) ∧ V.cell? ⟨g, 1, none⟩ = some (.int .i64 (s : Int)) ∧ V.cell? ⟨g, 2, none⟩ = some (.int .i64 (h : Int)) ∧ V.cell? ⟨g, 3, none⟩ = some (.int .i64 (l : Int)) ∧ V.cell? ⟨g, 4, none⟩ = some (.int .i64 (p : Int)) ∧ V.cell? ⟨g, 5, none⟩ = some (.int .i64 (sd : Int))) := Lib.hid fun V hV => ⟨(hV.cell (p := ⟨g, 0, none⟩) hlt).trans c0, (hV.cell (p := ⟨g, 1, none⟩) hlt).trans c1, (hV.cell (p := ⟨g, 2, none⟩) hlt).trans c2, (hV.cell (p := ⟨g, 3, none⟩) hlt).trans c3, (hV.cell (p := ⟨g, 4, none⟩) hlt).trans c4, (hV.cell (p := ⟨g, 5, none⟩) hlt).trans c5⟩
  have HSD : Hid (w.drew.cell? ⟨g, 0, none⟩ = some (.int .i64 (k : Int)) ∧ w.drew.cell? ⟨g, 1, none⟩ = some (.int .i64 (s : Int)) ∧ w.drew.cell? ⟨g, 2, none⟩ = some (.int .i64 (h : Int)) ∧ w.drew.cell? ⟨g, 3, none⟩ = some (.int .i64 (l : Int)) ∧ w.drew.cell? ⟨g, 4, none⟩ = some (.int .i64 (p : Int)) ∧ w.drew.cell? ⟨g, 5, none⟩ = some (.int .i64 (sd : Int))) := Lib.hid ⟨c0, c1, c2, c3, c4, c5⟩
  clear hx hn hbd
  go_enter Tryz.func43, Tryz.ntmps43
  go_wp2_with fail
  go_region_held3 (fun w' => w'.cell? ⟨g, 0, none⟩ = some (.int .i64 (k : Int)) ∧ w'.cell? ⟨g, 1, none⟩ = some (.int .i64 (s : Int)) ∧ w'.cell? ⟨g, 2, none⟩ = some (.int .i64 (h : Int)) ∧ w'.cell? ⟨g, 3, none⟩ = some (.int .i64 (l : Int)) ∧ w'.cell? ⟨g, 4, none⟩ = some (.int .i64 (p : Int)) ∧ w'.cell? ⟨g, 5, none⟩ = some (.int .i64 (sd : Int)))
    (first | exact HSD.out | exact HSAT.out _ HB3.out | go_keep)
    (first
    | (go_at_call 82; (with_reducible refine HRW.out.mono ?_); rintro e w3 ⟨E, rfl, hea, hb3⟩; have HB3 := Lib.hid (HBD.out.trans (hb3.mono HBD.out.size)); have HEA := Lib.hid hea; obtain ⟨u, x, rfl⟩ := hea.some (by decide); clear hea hb3))
  all_goals
    clear c0 c1 c2 c3 c4 c5
    go_wp2
    go_ret2
    exact ⟨_, rfl, HEA.out, HB3.out⟩
end Go.Proofs.YtkhdjjcflbdegaaGreatDoor
end

section
/- Package decode: New. -/
namespace Go.Proofs.YtkhdjjcflbdegaaGreatDoor
open Go.RowKit Go.Extern.Stop Go.Stop Go.Extern

theorem sysF_rk {k s h l size : Nat} (hl : l = k + s + h) : rkP l (sysF k s h l size) = s + h := by
  rw [← sysD_nil k s h l 0 0 size (fun _ => []), sysD_rk hl]
  exact rank_F k s h l 0 0

set_option maxRecDepth 1000000 in
set_option maxHeartbeats 4000000 in
theorem DeNew_k {w : World} (k size : Int) (hk : k < 1 ∨ 128 < k) : Calls Tryz.prog 11 #[.int .i64 k, .int .i64 size] w (NoSays 1 nameDeNew nilP w) := by
  have HO : Hid (∀ V, Calls Tryz.prog 30 #[.int .i64 k] V (NoSays 1 nameOf (.agg #[.int .i64 0, .int .i64 0, .int .i64 0, .int .i64 0, .int .i64 0]) V)) := Lib.hid fun V => Of_out _ hk
  clear hk
  go_enter Tryz.func11, Tryz.ntmps11
  go_wp2_with fail
  refine (HO.out _).mono ?_
  rintro e w1 ⟨E, rfl, hea, hb1⟩
  obtain ⟨W, hW, hbW, hby⟩ := par_laid w1 0 0 0 0 0
  have HW := Lib.hid hW
  have HB1 := Lib.hid (hb1.trans (hbW.mono hb1.size))
  obtain ⟨ls, hch⟩ : ∃ ls, Chain w1 1 (nameOf :: ls) E := (hea.resolve_left (by rintro ⟨h, -⟩; cases h)).2
  have HCH := Lib.hid (hch.mono hbW)
  obtain ⟨u, x, rfl⟩ := hch.iface
  clear hea hb1 hW hbW hby hch
  go_upto_region 2 with fail
  rw [← HW.out]
  go_wp2_with fail
  refine (Wrap_chain nameDeNew 1 _ _ _ HCH.out).mono ?_
  rintro e w2 ⟨E2, rfl, hch, hb2⟩
  have HB2 := Lib.hid (HB1.out.trans (hb2.mono HB1.out.size))
  have HCH2 := Lib.hid hch
  obtain ⟨u2, x2, rfl⟩ := hch.iface
  clear hch hb2
  go_wp2
  go_ret2
  exact ⟨_, rfl, .inr ⟨by decide, _, HCH2.out⟩, HB2.out⟩

set_option maxRecDepth 1000000 in
set_option maxHeartbeats 4000000 in
theorem DeNew_size {w : World} (k : Nat) (size : Int) (hk1 : 1 ≤ k) (hk2 : k ≤ 128) (hz : size < 1 ∨ 64 < size) : Calls Tryz.prog 11 #[.int .i64 (k : Int), .int .i64 size] w (NoSays 1 nameDeNew nilP w) := by
  go_enter Tryz.func11, Tryz.ntmps11
  go_wp2_with fail
  refine (Of_in k hk1 hk2).mono ?_
  rintro e w1 ⟨s, h, l, p, rfl, hof, hb1⟩
  obtain ⟨W, hW, hbW, hby⟩ := par_laid w1 k s h l p
  have HW := Lib.hid hW
  have HB1 := Lib.hid (hb1.trans (hbW.mono hb1.size))
  have HX1 := Lib.hid hby
  have HNW : Hid (∀ V, Calls Tryz.prog 32 #[.int .i64 (l : Int), .int .i64 size] V fun e w' => ∃ E, e = .returned (.tuple #[nilP, E]) ∧ ErrAns 1 nameElNew w' E ∧ Below V.heap.size V w') := Lib.hid fun V => elNew_bad l size (.inr (.inr hz))
  clear hof hW hbW hby hb1 hz
  unfold parV parC
  go_upto_region 2 with fail
  rw [← HW.out]
  obtain ⟨g1, hg1⟩ : ∃ g1, w1.heap.size = g1 := ⟨_, rfl⟩
  rw [hg1] at HX1 ⊢
  clear hg1
  obtain ⟨c0, c1, c2, c3, c4⟩ := HX1.out.cells
  go_wp2_with fail
  refine (HNW.out _).mono ?_
  rintro e w2 ⟨E, rfl, hea, hb2⟩
  obtain ⟨ls, hch⟩ : ∃ ls, Chain w2 1 (nameElNew :: ls) E := (hea.resolve_left (by rintro ⟨h, -⟩; cases h)).2
  have HB2 := Lib.hid (HB1.out.trans (hb2.mono HB1.out.size))
  have HCH := Lib.hid hch
  obtain ⟨u, x, rfl⟩ := hch.iface
  clear hea hb2 hch c0 c1 c2 c3 c4
  go_wp2_with fail
  refine (Wrap_chain nameDeNew 1 _ _ _ HCH.out).mono ?_
  rintro e w4 ⟨E2, rfl, hch, hb4⟩
  have HB4 := Lib.hid (HB2.out.trans (hb4.mono HB2.out.size))
  have HCH2 := Lib.hid hch
  obtain ⟨u2, x2, rfl⟩ := hch.iface
  clear hch hb4
  go_wp2
  go_ret2
  exact ⟨_, rfl, .inr ⟨by decide, _, HCH2.out⟩, HB4.out⟩

set_option maxRecDepth 1000000 in
set_option maxHeartbeats 4000000 in
theorem DeNew_ok {w : World} (k size : Nat) (hk1 : 1 ≤ k) (hk2 : k ≤ 128) (hz1 : 1 ≤ size) (hz2 : size ≤ 64) (hT : DgTab w) (hB : Tab w) :
    Calls Tryz.prog 11 #[.int .i64 (k : Int), .int .i64 (size : Int)] w fun e w' => ∃ g b kb s h l p sd, e = .returned (.tuple #[.pointer (some ⟨g, 0, none⟩), .nilIface]) ∧ DecAt AnyB w' w.heap.size g b kb k s h l p sd size (sysF k s h l size) false ∧ Below w.heap.size w w' := by
  obtain ⟨i0, hi, iz0, iz1, iz2⟩ := info_parts info_u8
  have HT := Lib.hid hT
  have HBT := Lib.hid hB
  clear hT hB
  go_enter Tryz.func11, Tryz.ntmps11
  go_wp2_with fail
  refine (Of_in k hk1 hk2).mono ?_
  rintro e w1 ⟨s, h, l, p, rfl, hof, hb1⟩
  have HOF := Lib.hid hof
  obtain ⟨b1, b2, b3, b4, b5, b6, b7⟩ := hof.bounds hk1 hk2
  have HLQ := Lib.hid hof.2.2.1
  obtain ⟨W, hW, hbW, hby⟩ := par_laid w1 k s h l p
  have HW := Lib.hid hW
  have HB1 := Lib.hid (hb1.trans (hbW.mono hb1.size))
  have HX1 := Lib.hid hby
  have HN : Hid (Calls Tryz.prog 32 #[.int .i64 (l : Int), .int .i64 (size : Int)] W fun e w' => ∃ b kb, e = .returned (.tuple #[sysP b, .nilIface]) ∧ Sys w' b l size [] 0 false kb ∧ W.heap.size ≤ b ∧ W.heap.size ≤ kb ∧ Below W.heap.size W w') := Lib.hid (sysNew l size (by have := HLQ.out; omega) (by omega) hz1 hz2)
  have HRK := Lib.hid (sysF_rk (size := size) HLQ.out)
  clear hof hW hbW hby hb1
  unfold parV parC
  go_upto_region 2 with fail
  rw [← HW.out]
  obtain ⟨g1, hg1⟩ : ∃ g1, w1.heap.size = g1 := ⟨_, rfl⟩
  rw [hg1] at HX1 ⊢
  clear hg1
  obtain ⟨c0, c1, c2, c3, c4⟩ := HX1.out.cells
  go_wp2_with fail
  refine HN.out.mono ?_
  rintro e w2 ⟨b, kb, rfl, hsys, hgb, hgk, hb2⟩
  have HS2 := Lib.hid hsys
  have HB2 := Lib.hid (HB1.out.trans (hb2.mono HB1.out.size))
  have HG := Lib.hid (show w.heap.size ≤ b ∧ w.heap.size ≤ kb from ⟨Nat.le_trans HB1.out.size hgb, Nat.le_trans HB1.out.size hgk⟩)
  have HX2 := Lib.hid (HX1.out.mono hb2)
  have HSE := Lib.hid (Seed_ok (w := w2) k hk1 hk2 (PairsAt.mono HT.out HB2.out) (HBT.out.mono HB2.out))
  clear hsys hgb hgk hb2 c0 c1 c2 c3 c4
  go_wp2_with fail
  refine HSE.out.mono ?_
  rintro e w3 ⟨s', h', l', p', sd, rfl, hof, hsd, hb3⟩
  obtain ⟨rfl, rfl, rfl, rfl⟩ := hof.unique HOF.out
  have HSD := Lib.hid hsd
  have HS3 := Lib.hid (HS2.out.mono hb3)
  have HX3 := Lib.hid (HX2.out.mono hb3)
  have HB3 := Lib.hid (HB2.out.trans (hb3.mono HB2.out.size))
  have HRO := Lib.hid (Rows_ok (w := w3) k s' h' l' p' sd nilS [] HOF.out hk1 hk2 hsd.1 (ListAt.nil _ _) (fun e he => by cases he) (by simp) (PairsAt.mono HT.out HB3.out))
  unfold parV parC at HRO
  clear hof hsd hb3
  obtain ⟨c0, c1, c2, c3, c4⟩ := HX3.out.cells
  go_wp2_with fail
  refine HRO.out.mono ?_
  rintro e w4 ⟨vr, rfl, hm4, hb4⟩
  rw [rowsA_nil] at hm4
  have HM4 := Lib.hid hm4
  have HS4 := Lib.hid (HS3.out.mono hb4)
  have HX4 := Lib.hid (HX3.out.mono hb4)
  have HB4 := Lib.hid (HB3.out.trans (hb4.mono HB3.out.size))
  have hsz4 := HB4.out.size
  obtain ⟨n, hn⟩ : ∃ n, s' + h' = n := ⟨_, rfl⟩
  have hll : (packL l' (rowsF0 k s' h')).length = n := by rw [packL_length, rowsF0_length, hn]
  have HLL := Lib.hid hll
  have HRW : Hid (∀ i, i < n → (packL l' (rowsF0 k s' h')).getD i [] = packR l' ((rowsF0 k s' h').getD i [])) := Lib.hid fun i hi => packL_getD _ _ (by rw [rowsF0_length, hn]; exact hi)
  have HLT : Hid (∀ i, i < n → ∀ c ∈ (rowsF0 k s' h').getD i [], c < l') := Lib.hid fun i hi => by
    rw [HLQ.out]
    exact (rowsF0_getD (by rw [rowsF0_length, hn]; exact hi) _ rfl).1
  have HK0 : Hid ((((rowsF0 k s' h').take 0).map fun r => eqL l' r (List.replicate size 0)) = []) := Lib.hid rfl
  have HKS : Hid (∀ i, i < n → (((rowsF0 k s' h').take (i + 1)).map fun r => eqL l' r (List.replicate size 0)) = (((rowsF0 k s' h').take i).map fun r => eqL l' r (List.replicate size 0)) ++ [eqL l' ((rowsF0 k s' h').getD i []) (List.replicate size 0)]) := Lib.hid fun i hi => takeF_succ (by rw [hn]; exact hi)
  have HKN : Hid ((((rowsF0 k s' h').take n).map fun r => eqL l' r (List.replicate size 0)) = sysF k s' h' l' size) := Lib.hid (by rw [← hn]; exact takeF_all)
  have HKF : Hid (∀ i, i < n → kindV l' (((rowsF0 k s' h').take i).map fun r => eqL l' r (List.replicate size 0)) (eqL l' ((rowsF0 k s' h').getD i []) (List.replicate size 0)) = 1) := Lib.hid fun i hi => freshF HLQ.out (by rw [hn]; exact hi) _
  rw [hn] at HRK
  have hnl : n ≤ l' := by have := HLQ.out; omega
  obtain ⟨vs0, hvs0, -⟩ := id hm4
  rw [hll] at hvs0
  obtain ⟨gr, cr, rfl⟩ := own_nonnil hvs0 (by omega)
  have hl157 : l' ≤ 157 := b5
  clear hm4 hb4 c0 c1 c2 c3 c4 b1 b2 b3 b4 b5 b6 b7 HLQ hll hn hvs0
  generalize rowsF0 k s' h' = R at *
  generalize hKF : sysF k s' h' l' size = KF at *
  go_wp2_with (at_make; refine wpList_make_full _ rfl _ _ 37 rfl w.heap.size 5 i0 (.int .u8 0) 1 Tryz.underlying37 hi iz0 iz1 .i64 .i64 _ _ size rfl rfl rfl rfl (by rw [iz2]; omega) (by unfold maxLen; omega) hsz4 ?_; intro w5 hown0 hgrow0; have hb5 := Lib.hid ((Below.refl w4.heap.size w4).grown hgrow0 (Nat.le_refl _) (fun k hk => by cases hk)); have ho5 := Lib.hid hown0; clear hown0 hgrow0)
  have HS5 := Lib.hid (HS4.out.mono hb5.out)
  have HM5 := Lib.hid (HM4.out.mono hb5.out)
  have HX5 := Lib.hid (HX4.out.mono hb5.out)
  have HB5 := Lib.hid (HB4.out.trans (hb5.out.mono hsz4))
  have HO5 : Hid (w5.ownsRow w.heap.size 5 1 (.slice (some ⟨w4.heap.size, 0, none⟩) size size) size ((List.replicate size 0).map byteV)) := Lib.hid (by
    have := ho5.out
    rw [Nat.mul_one] at this
    rw [List.map_replicate]
    exact toList_madeCells_one (.int .u8 0) size ▸ this)
  have hlz : (List.replicate size 0).length = size := List.length_replicate
  have HLZ := Lib.hid hlz
  have HOZ := Lib.hid (octets_zero size)
  clear hb5 ho5 hlz HS4 HS2 HS3 HM4
  generalize List.replicate size 0 = Z at *
  generalize w4.heap.size = g2 at *
  go_loopw [59] (fun i wr => ∃ j : Nat, j ≤ n ∧ i = .int .i64 j ∧ Sys wr b l' size ((R.take j).map fun r => eqL l' r Z) j false kb ∧ Touch b kb w5 wr) (fun i _ => n - (intOf i).toNat)
  case atStart => exact ⟨0, Nat.zero_le _, rfl, by rw [HK0.out]; exact HS5.out, Touch.of (Below.refl _ _)⟩
  case round =>
    obtain ⟨j, hj, rfl, hsys, htch⟩ := hrel
    have HSR := Lib.hid hsys
    have HTC := Lib.hid htch
    have hmr := HM5.out.touch HS5.out htch ⟨by decide, by decide⟩
    have HOR := Lib.hid (Sys.own HS5.out htch (by decide) HO5.out)
    have HBR := Lib.hid (HB5.out.trans (htch.below HG.out.1 HG.out.2 HB5.out.size))
    by_cases hlt : j < n
    · obtain ⟨vs, hv1, hv2, -⟩ := hmr
      rw [HLL.out] at hv1
      have hcs := hv1.cellAt j (by omega)
      have hel := (hv2 j).1
      rw [HRW.out j hlt] at hel
      have hvl : j < vs.length := by have := hv1.1; omega
      rw [List.getElem?_eq_getElem hvl] at hcs
      rw [List.getD_eq_getElem?_getD, List.getElem?_eq_getElem hvl, Option.getD_some] at hel
      have HAD : Hid (Calls Tryz.prog 35 #[sysP b, vs[j], .slice (some ⟨g2, 0, none⟩) size size] wr fun e w' => e = .returned (.tuple #[.int .i64 1, .nilIface]) ∧ Touch b kb wr w' ∧ Sys w' b l' size ((R.take (j + 1)).map fun r => eqL l' r Z) (j + 1) false kb) := Lib.hid (by
        rw [HKS.out j hlt]
        exact sysAdd_fresh b l' size _ j kb _ _ (packR l' (R.getD j [])) Z hsys (HBT.out.mono HBR.out) hel (ListAt.of_owns HOR.out) (eqL_ok (HLT.out j hlt) HLZ.out HOZ.out) (HKF.out j hlt))
      obtain ⟨ae, ce, hxe, -, -, -⟩ := hel
      clear hv1 hv2 hsys htch
      generalize vs[j] = x at *
      subst hxe
      go_wp2_with fail
      refine HAD.out.mono ?_
      rintro e w6 ⟨rfl, ht6, hs6⟩
      have HT6 := Lib.hid (HTC.out.trans ht6)
      have HS6 := Lib.hid hs6
      clear ht6 hs6 hcs
      go_wp2
      go_roundw
      case rel => exact ⟨j + 1, by omega, by go_num, HS6.out, HT6.out⟩
      case measure => simp [intOf]; omega
    · obtain rfl : j = n := by omega
      have HXR : Hid (ParBox wr g1 k s' h' l' p') := Lib.hid (HX5.out.touch HS5.out htch)
      have HSK : Hid (Sys wr b l' size KF j false kb) := Lib.hid (by rw [← HKN.out]; exact hsys)
      have hbd : Below wr.heap.size wr wr.drew := (Below.refl _ _).drew
      have HBD := Lib.hid hbd
      have HRA := Lib.hid (Rank_any (w := wr.drew) b j (HSK.out.mono hbd).cells.2.2.2.1)
      have HSAT : Hid (∀ V, Below wr.heap.size wr V → V.cell? ⟨g1, 0, none⟩ = some (.int .i64 (k : Int)) ∧ V.cell? ⟨g1, 1, none⟩ = some (.int .i64 (s' : Int)) ∧ V.cell? ⟨g1, 2, none⟩ = some (.int .i64 (h' : Int)) ∧ V.cell? ⟨g1, 3, none⟩ = some (.int .i64 (l' : Int)) ∧ V.cell? ⟨g1, 4, none⟩ = some (.int .i64 (p' : Int))) := Lib.hid fun V hV => (HXR.out.mono hV).cells
      have HSD0 := Lib.hid (HSAT.out _ hbd)
      obtain ⟨c0, c1, c2, c3, c4⟩ := HXR.out.cells
      have hlb := HSK.out.base.2.2.2.2.1
      have hwr : IntKind.i64.wrap ((l' : Int) - (j : Int)) = ((l' - j : Nat) : Int) := by rw [IntWalk.i64_in _ (by omega)]; omega
      clear hmr hsys htch hbd
      go_wp2_with fail
      clear c0 c1 c2 c3 c4
      go_region_held3 (fun w' => w'.cell? ⟨g1, 0, none⟩ = some (.int .i64 (k : Int)) ∧ w'.cell? ⟨g1, 1, none⟩ = some (.int .i64 (s' : Int)) ∧ w'.cell? ⟨g1, 2, none⟩ = some (.int .i64 (h' : Int)) ∧ w'.cell? ⟨g1, 3, none⟩ = some (.int .i64 (l' : Int)) ∧ w'.cell? ⟨g1, 4, none⟩ = some (.int .i64 (p' : Int)))
        (first | (with_reducible exact HSD0.out) | (with_reducible exact HSAT.out _ (((Below.refl wr.heap.size wr).alloc (Nat.le_refl _) _).drew)) | go_keep)
        (first
        | (go_at_call 36; (with_reducible refine HRA.out.mono ?_); rintro e w7 ⟨rfl, rfl⟩))
      all_goals
        go_wp2
        go_ret2
        have hbr : Below wr.heap.size wr (wr.alloc (.cells #[.int .i64 (k : Int), .int .i64 (s' : Int), .int .i64 (h' : Int), .int .i64 (l' : Int), .int .i64 (p' : Int), .int .i64 (sd : Int), .int .i64 (size : Int), sysP b, .int .i64 ((l' - j : Nat) : Int)] 82)).drew := ((Below.refl _ _).alloc (Nat.le_refl _) _).drew
        refine ⟨wr.heap.size, b, kb, s', h', l', p', sd, rfl, ⟨?_, ?_, HBR.out.size, HG.out.1, HG.out.2, HOF.out, HSD.out, hk1, hk2, hz1, hz2⟩, HBR.out.trans (hbr.mono HBR.out.size)⟩
        · rw [hKF, HRK.out]
          exact heap_alloc_new wr _
        · rw [hKF, HRK.out]
          exact (HSK.out.mono hbr).here fun _ _ => trivial
end Go.Proofs.YtkhdjjcflbdegaaGreatDoor
end
