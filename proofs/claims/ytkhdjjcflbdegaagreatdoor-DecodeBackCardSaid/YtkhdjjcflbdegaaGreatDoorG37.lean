import Derived.Test.YtkhdjjcflbdegaaGreatDoorG34
import Derived.Test.YtkhdjjcflbdegaaGreatDoorG36

section
/- Package geyserref12: New, Symbol, Check. -/
namespace Go.Proofs.YtkhdjjcflbdegaaGreatDoor
open Go.RowKit Go.Extern.Stop Go.Stop Go.Extern

/-- The document's encoder. -/
def rEnV (k s h l p sd size : Int) (vm : Value) : Value := .agg #[.int .i64 k, .int .i64 s, .int .i64 h, .int .i64 l, .int .i64 p, .int .i64 sd, .int .i64 size, vm]
def REnBox (W : World) (g : Nat) (k s h l p sd size : Int) (vm : Value) : Prop :=
  W.heap[g]? = some (.cells #[.int .i64 k, .int .i64 s, .int .i64 h, .int .i64 l, .int .i64 p, .int .i64 sd, .int .i64 size, vm] 58 (0, 0))
section
variable {W W' : World} {g : Nat} {k s h l p sd size : Int} {vm : Value}
theorem REnBox.lt (b : REnBox W g k s h l p sd size vm) : g < W.heap.size := (Array.getElem?_eq_some_iff.1 b).1
theorem REnBox.mono (b : REnBox W g k s h l p sd size vm) (hb : Below W.heap.size W W') : REnBox W' g k s h l p sd size vm := (hb.block g b.lt).trans b
theorem REnBox.cells (b : REnBox W g k s h l p sd size vm) :
    W.cell? ⟨g, 0, none⟩ = some (.int .i64 k) ∧ W.cell? ⟨g, 1, none⟩ = some (.int .i64 s) ∧ W.cell? ⟨g, 2, none⟩ = some (.int .i64 h) ∧ W.cell? ⟨g, 3, none⟩ = some (.int .i64 l) ∧ W.cell? ⟨g, 4, none⟩ = some (.int .i64 p) ∧
      W.cell? ⟨g, 5, none⟩ = some (.int .i64 sd) ∧ W.cell? ⟨g, 6, none⟩ = some (.int .i64 size) ∧ W.cell? ⟨g, 7, none⟩ = some vm :=
  ⟨cell_of_heap b rfl, cell_of_heap b rfl, cell_of_heap b rfl, cell_of_heap b rfl, cell_of_heap b rfl, cell_of_heap b rfl, cell_of_heap b rfl, cell_of_heap b rfl⟩
theorem REnBox.free (b : REnBox W g k s h l p sd size vm) (j : Nat) : W.frozen? ⟨g, j, none⟩ = false := frozen_of_heap b
theorem REnBox.store (b : REnBox W g k s h l p sd size vm) (a0 a1 a2 a3 a4 a5 a6 a7 : Value) :
    ((((((((W.setCell ⟨g, 0, none⟩ a0).setCell ⟨g, 1, none⟩ a1).setCell ⟨g, 2, none⟩ a2).setCell ⟨g, 3, none⟩ a3).setCell ⟨g, 4, none⟩ a4).setCell ⟨g, 5, none⟩ a5).setCell ⟨g, 6, none⟩ a6).setCell ⟨g, 7, none⟩ a7).heap[g]? = some (.cells #[a0, a1, a2, a3, a4, a5, a6, a7] 58 (0, 0)) := by
  have h1 : (W.setCell ⟨g, 0, none⟩ a0).heap[g]? = some (.cells #[a0, .int .i64 s, .int .i64 h, .int .i64 l, .int .i64 p, .int .i64 sd, .int .i64 size, vm] 58 (0, 0)) := heap_setCell_at (j := 0) (u := a0) b
  have h2 : ((W.setCell ⟨g, 0, none⟩ a0).setCell ⟨g, 1, none⟩ a1).heap[g]? = some (.cells #[a0, a1, .int .i64 h, .int .i64 l, .int .i64 p, .int .i64 sd, .int .i64 size, vm] 58 (0, 0)) := heap_setCell_at (j := 1) (u := a1) h1
  have h3 : (((W.setCell ⟨g, 0, none⟩ a0).setCell ⟨g, 1, none⟩ a1).setCell ⟨g, 2, none⟩ a2).heap[g]? = some (.cells #[a0, a1, a2, .int .i64 l, .int .i64 p, .int .i64 sd, .int .i64 size, vm] 58 (0, 0)) := heap_setCell_at (j := 2) (u := a2) h2
  have h4 : ((((W.setCell ⟨g, 0, none⟩ a0).setCell ⟨g, 1, none⟩ a1).setCell ⟨g, 2, none⟩ a2).setCell ⟨g, 3, none⟩ a3).heap[g]? = some (.cells #[a0, a1, a2, a3, .int .i64 p, .int .i64 sd, .int .i64 size, vm] 58 (0, 0)) := heap_setCell_at (j := 3) (u := a3) h3
  have h5 : (((((W.setCell ⟨g, 0, none⟩ a0).setCell ⟨g, 1, none⟩ a1).setCell ⟨g, 2, none⟩ a2).setCell ⟨g, 3, none⟩ a3).setCell ⟨g, 4, none⟩ a4).heap[g]? = some (.cells #[a0, a1, a2, a3, a4, .int .i64 sd, .int .i64 size, vm] 58 (0, 0)) := heap_setCell_at (j := 4) (u := a4) h4
  have h6 : ((((((W.setCell ⟨g, 0, none⟩ a0).setCell ⟨g, 1, none⟩ a1).setCell ⟨g, 2, none⟩ a2).setCell ⟨g, 3, none⟩ a3).setCell ⟨g, 4, none⟩ a4).setCell ⟨g, 5, none⟩ a5).heap[g]? = some (.cells #[a0, a1, a2, a3, a4, a5, .int .i64 size, vm] 58 (0, 0)) := heap_setCell_at (j := 5) (u := a5) h5
  have h7 : (((((((W.setCell ⟨g, 0, none⟩ a0).setCell ⟨g, 1, none⟩ a1).setCell ⟨g, 2, none⟩ a2).setCell ⟨g, 3, none⟩ a3).setCell ⟨g, 4, none⟩ a4).setCell ⟨g, 5, none⟩ a5).setCell ⟨g, 6, none⟩ a6).heap[g]? = some (.cells #[a0, a1, a2, a3, a4, a5, a6, vm] 58 (0, 0)) := heap_setCell_at (j := 6) (u := a6) h6
  have h8 : ((((((((W.setCell ⟨g, 0, none⟩ a0).setCell ⟨g, 1, none⟩ a1).setCell ⟨g, 2, none⟩ a2).setCell ⟨g, 3, none⟩ a3).setCell ⟨g, 4, none⟩ a4).setCell ⟨g, 5, none⟩ a5).setCell ⟨g, 6, none⟩ a6).setCell ⟨g, 7, none⟩ a7).heap[g]? = some (.cells #[a0, a1, a2, a3, a4, a5, a6, a7] 58 (0, 0)) := heap_setCell_at (j := 7) (u := a7) h7
  exact h8
theorem ren_below {w W : World} {B g : Nat} (hb : Below B w W) (hg : B ≤ g) (a0 a1 a2 a3 a4 a5 a6 a7 : Value) :
    Below B w ((((((((W.setCell ⟨g, 0, none⟩ a0).setCell ⟨g, 1, none⟩ a1).setCell ⟨g, 2, none⟩ a2).setCell ⟨g, 3, none⟩ a3).setCell ⟨g, 4, none⟩ a4).setCell ⟨g, 5, none⟩ a5).setCell ⟨g, 6, none⟩ a6).setCell ⟨g, 7, none⟩ a7) :=
  (((((((hb.setCell (p := ⟨g, 0, none⟩) hg _).setCell (p := ⟨g, 1, none⟩) hg _).setCell (p := ⟨g, 2, none⟩) hg _).setCell (p := ⟨g, 3, none⟩) hg _).setCell (p := ⟨g, 4, none⟩) hg _).setCell (p := ⟨g, 5, none⟩) hg _).setCell (p := ⟨g, 6, none⟩) hg _).setCell (p := ⟨g, 7, none⟩) hg _
end
theorem ren_cell {W : World} {g j : Nat} {x : Value} (b : REnBox W g 0 0 0 0 0 0 0 nilS) (h : W.cell? ⟨g, j, none⟩ = some x) : x = .int .i64 0 ∨ x = nilS := by
  have h2 : W.heap[g]? = _ := b
  simp only [World.cell?, h2] at h
  rcases j with _ | _ | _ | _ | _ | _ | _ | _ | j <;> simp at h
  all_goals first | exact .inl h.symm | exact .inr h.symm
theorem ListAt.away {w w' : World} {v : Value} {l : List Nat} {g : Nat} (h : ListAt byteV w v l) (hb : REnBox w g 0 0 0 0 0 0 0 nilS) (hs : ∀ x, x ≠ g → w'.heap[x]? = w.heap[x]?) : ListAt byteV w' v l := by
  obtain ⟨a, cap, rfl, h1, h2, h3⟩ := h
  refine ⟨a, cap, rfl, h1, h2, fun hp => ?_⟩
  obtain ⟨b, off, rfl, hc⟩ := h3 hp
  have hne : b ≠ g := fun e => by
    have h0 := hc 0 hp
    rw [e] at h0
    rcases ren_cell hb h0 with h | h <;> cases h
  refine ⟨b, off, rfl, fun j hj => ?_⟩
  rw [World.cell?_of_block (w := w) (a := ⟨b, off + j, none⟩) (hs b hne)]
  exact hc j hj
/-- What reads as symbols does not lie in an encoder's box. -/
theorem MatAt.away {w w' : World} {v : Value} {L : List (List Nat)} {g : Nat} (h : MatAt byteV w v L) (hr : ∀ r ∈ L, 1 ≤ r.length) (hb : REnBox w g 0 0 0 0 0 0 0 nilS) (hs : ∀ x, x ≠ g → w'.heap[x]? = w.heap[x]?) : MatAt byteV w' v L := by
  obtain ⟨vs, ⟨a, cap, rfl, h1, h2, h3⟩, h4, h5⟩ := h
  refine ⟨vs, ⟨a, cap, rfl, h1, h2, fun hp => ?_⟩, h4, fun i => (h5 i).away hb hs⟩
  obtain ⟨b, off, rfl, hc⟩ := h3 hp
  have hne : b ≠ g := fun e => by
    have h0 := hc 0 hp
    rw [e] at h0
    obtain ⟨a0, c0, e0, k1, k2, k3⟩ := h5 0
    have hv : vs.getD 0 nilS = vs[0] := by simp [List.getD_eq_getElem?_getD, hp]
    have hl := hr (L.getD 0 []) (getD_mem_row (by omega))
    rcases ren_cell hb h0 with h | h
    · rw [show id vs[0] = vs.getD 0 nilS from hv.symm, e0] at h
      cases h
    · rw [show id vs[0] = vs.getD 0 nilS from hv.symm, e0] at h
      have h' : Value.slice a0 (L.getD 0 []).length c0 = Value.slice none 0 0 := h
      injection h' with e1 e2 e3
      omega
  refine ⟨b, off, rfl, fun j hj => ?_⟩
  rw [World.cell?_of_block (w := w) (a := ⟨b, off + j, none⟩) (hs b hne)]
  exact hc j hj
theorem ren_laid (w : World) (k s h l p sd size : Int) (vm : Value) : ∃ W, W = w.alloc (.cells #[.int .i64 k, .int .i64 s, .int .i64 h, .int .i64 l, .int .i64 p, .int .i64 sd, .int .i64 size, vm] 58) ∧ Below w.heap.size w W ∧ REnBox W w.heap.size k s h l p sd size vm :=
  ⟨_, rfl, (Below.refl _ _).alloc (Nat.le_refl _) _, heap_alloc_new w _⟩
set_option maxRecDepth 1000000 in
set_option maxHeartbeats 4000000 in
theorem rEnSym_any {w : World} (k s h l p sd size n : Nat) (vm : Value) (V : List (List Nat)) (H : OfP k s h l p) (hk1 : 1 ≤ k) (hk2 : k ≤ 128) (hs : sd < 65536) (hn : n < 65536) (hV : MatAt byteV w vm V) (hVl : V.length = l) (hr : ∀ r ∈ V, r.length = size ∧ Octets r) (hz : size ≤ 1000) :
    Calls Tryz.prog 27 #[rEnV k s h l p sd size vm, .int .i64 (n : Int)] w fun e w' => ∃ v', e = .returned v' ∧ w'.ownsRow w.heap.size 5 1 v' size ((symE l p sd size V n).map byteV) ∧ Below w.heap.size w w' := by
  obtain ⟨b1, b2, b3, b4, b5, b6, b7⟩ := H.bounds hk1 hk2
  obtain ⟨w0, hw0, hb0, hbx⟩ := ren_laid w k s h l p sd size vm
  have HW0 := Lib.hid hw0
  have HB0 := Lib.hid hb0
  have hbd : Below w0.heap.size w0 w0.drew := (Below.refl _ _).drew
  have HBD := Lib.hid hbd
  have HSAT : Hid (∀ V, Below w0.heap.size w0 V → V.cell? ⟨w.heap.size, 0, none⟩ = some (.int .i64 (k : Int)) ∧ V.cell? ⟨w.heap.size, 1, none⟩ = some (.int .i64 (s : Int)) ∧ V.cell? ⟨w.heap.size, 2, none⟩ = some (.int .i64 (h : Int)) ∧ V.cell? ⟨w.heap.size, 3, none⟩ = some (.int .i64 (l : Int)) ∧ V.cell? ⟨w.heap.size, 4, none⟩ = some (.int .i64 (p : Int)) ∧
      V.cell? ⟨w.heap.size, 5, none⟩ = some (.int .i64 (sd : Int)) ∧ V.cell? ⟨w.heap.size, 6, none⟩ = some (.int .i64 (size : Int)) ∧ V.cell? ⟨w.heap.size, 7, none⟩ = some vm) := Lib.hid fun V hV => (hbx.mono hV).cells
  have HSD0 := Lib.hid (HSAT.out _ hbd)
  have HRW : Hid (Calls Tryz.prog 41 #[.agg #[.int .i64 (k : Int), .int .i64 (s : Int), .int .i64 (h : Int), .int .i64 (l : Int), .int .i64 (p : Int)], .int .i64 (sd : Int), .int .i64 (n : Int)] w0.drew fun e w' => ∃ v', e = .returned v' ∧ ListAt colV w' v' (rowE l p sd n) ∧ Below w0.drew.heap.size w0.drew w') := Lib.hid (by
    refine (rRow_any k s h l p sd n H hk1 hk2 hs hn).mono ?_
    rintro e w' ⟨v', W, rfl, htr, hl, hb⟩
    refine ⟨v', rfl, ?_, hb⟩
    unfold rowE
    rw [walkE_eq htr]
    exact listAt_col hl)
  have hrl := rowE_len l p sd n
  have HSU : Hid (∀ W x, Below w0.heap.size w0 W → ListAt colV W x (rowE l p sd n) → Calls Tryz.prog 48 #[x, vm, .int .i64 (size : Int)] W fun e w' => ∃ v', e = .returned v' ∧ w'.ownsRow W.heap.size 5 1 v' size ((symE l p sd size V n).map byteV) ∧ Below W.heap.size W w') :=
    Lib.hid fun W x hW hx => r11Sum_any x vm (rowE l p sd n) V size hx ((hV.mono hb0).mono hW) (by rw [hVl]; exact rowE_lt) (by omega) (fun r hm => (hr r hm).1) (fun r hm => (hr r hm).2) hz
  generalize symE l p sd size V n = SY at *
  generalize rowE l p sd n = R at *
  obtain ⟨av, cv, rfl, -, -, -⟩ := hV.opens
  clear hw0 hb0 hbx hbd H hk1 hk2 hs hn hV hVl hr b1 b2 b3 b4 b5 b6 b7 hrl
  unfold rEnV
  go_enter Tryz.func27, Tryz.ntmps27
  go_upto_region 1 with fail
  rw [← HW0.out]
  go_region_held3 (fun w' => w'.cell? ⟨w.heap.size, 0, none⟩ = some (.int .i64 (k : Int)) ∧ w'.cell? ⟨w.heap.size, 1, none⟩ = some (.int .i64 (s : Int)) ∧ w'.cell? ⟨w.heap.size, 2, none⟩ = some (.int .i64 (h : Int)) ∧ w'.cell? ⟨w.heap.size, 3, none⟩ = some (.int .i64 (l : Int)) ∧ w'.cell? ⟨w.heap.size, 4, none⟩ = some (.int .i64 (p : Int)) ∧
      w'.cell? ⟨w.heap.size, 5, none⟩ = some (.int .i64 (sd : Int)) ∧ w'.cell? ⟨w.heap.size, 6, none⟩ = some (.int .i64 (size : Int)) ∧ w'.cell? ⟨w.heap.size, 7, none⟩ = some (.slice av V.length cv))
    (first | exact HSD0.out | exact HSAT.out _ HB2.out | exact HSAT.out _ HB1.out | go_keep)
    (first
    | (go_at_call 41; (with_reducible refine HRW.out.mono ?_); rintro e w1 ⟨v1, rfl, hl1, hb1⟩; have hbb := HBD.out.trans (hb1.mono HBD.out.size); have HB1 := Lib.hid hbb; have HP1 := Lib.hid (HSU.out w1 v1 hbb hl1); clear hl1 hb1 hbb)
    | (go_at_call 48; (with_reducible refine HP1.out.mono ?_); rintro e w2 ⟨v2, rfl, ho2, hb2⟩; have HB2 := Lib.hid (HB1.out.trans (hb2.mono HB1.out.size)); have HO2 := Lib.hid ho2; clear ho2 hb2))
  all_goals
    go_wp2
    go_ret
    exact ⟨_, rfl, ownsRow_base HO2.out (Nat.le_trans HB0.out.size HB1.out.size), HB0.out.trans (HB2.out.mono HB0.out.size)⟩

set_option maxRecDepth 1000000 in
set_option maxHeartbeats 4000000 in
theorem rEnNew_any {w : World} (k size : Nat) (v : Value) (M : List (List Nat)) (hv : MatAt byteV w v M) (hk : M.length = k) (hk1 : 1 ≤ k) (hk2 : k ≤ 128) (hz1 : 1 ≤ size) (hz2 : size ≤ 64) (ho : ∀ r ∈ M, r.length = size ∧ Octets r) :
    Calls Tryz.prog 26 #[v, .int .i64 (size : Int)] w fun e w' => ∃ (s h l p sd : Nat) (vm : Value) (V : List (List Nat)), e = .returned (rEnV k s h l p sd size vm) ∧ OfP k s h l p ∧ IsSeed k s h l p sd ∧ MatAt byteV w' vm V ∧ Tells l size (sysE k s h l p sd size (fun t => M.getD t []) k) V ∧ Below w.heap.size w w' := by
  obtain ⟨w0, hw0, hb0, hbx⟩ := ren_laid w 0 0 0 0 0 0 0 nilS
  have HW0 := Lib.hid hw0
  have HB0 := Lib.hid hb0
  have HBX := Lib.hid hbx
  have HV := Lib.hid hv
  have HK := Lib.hid hk
  have HO := Lib.hid ho
  obtain ⟨av, cv, rfl, -, -, -⟩ := hv.opens
  rw [hk] at HV ⊢
  clear hv hk ho hw0 hb0 hbx
  go_enter Tryz.func26, Tryz.ntmps26
  go_upto_region 1 with fail
  rw [← HW0.out]
  go_wp2_with fail
  refine (rOf_any k hk1 hk2).mono ?_
  rintro e w1 ⟨s, h, l, p, rfl, hof, hb1⟩
  have HOF := Lib.hid hof
  obtain ⟨W, hW, hbW, hby⟩ := par_laid w1 k s h l p
  have HW := Lib.hid hW
  have hb0W := hb1.trans (hbW.mono hb1.size)
  have HB1 := Lib.hid (HB0.out.trans (hb0W.mono HB0.out.size))
  have HR1 := Lib.hid (HBX.out.mono hb0W)
  have HX1 := Lib.hid hby
  clear hof hW hbW hby hb1 hb0W
  unfold parV parC
  go_upto_region 2 with fail
  rw [← HW.out]
  obtain ⟨g1, hg1⟩ : ∃ g1, w1.heap.size = g1 := ⟨_, rfl⟩
  rw [hg1] at HX1 ⊢
  clear hg1
  obtain ⟨c0, c1, c2, c3, c4⟩ := HX1.out.cells
  go_wp2_with fail
  refine (r11Seed_any k hk1 hk2).mono ?_
  rintro e w2 ⟨s', h', l', p', sd, rfl, hof, hsd, hb2⟩
  obtain ⟨rfl, rfl, rfl, rfl⟩ := hof.unique HOF.out
  have HSD := Lib.hid hsd
  have HX2 := Lib.hid (HX1.out.mono hb2)
  have HR2 := Lib.hid (HR1.out.mono hb2)
  have HB2 := Lib.hid (HB1.out.trans (hb2.mono HB1.out.size))
  have hbd : Below w2.heap.size w2 w2.drew := (Below.refl _ _).drew
  have HBD := Lib.hid hbd
  have HLI := Lib.hid (lines_any (w := w2.drew) k s' h' l' p' sd size _ M HOF.out hk1 hk2 hsd.1 hz2 ((HV.out.mono HB2.out).mono hbd) HK.out)
  have HSO : Hid (∀ V x, LnsAt V x (lnsTo k s' h' l' p' sd size M l') → Calls Tryz.prog 49 #[x, .int .i64 (l' : Int)] V fun e w' => ∃ v' U, e = .returned v' ∧ MatAt byteV w' v' U ∧ Tells l' size (sysE k s' h' l' p' sd size (fun t => M.getD t []) k) U ∧ Below V.heap.size V w') := Lib.hid fun V x hx => by
    obtain ⟨b1, b2, b3, b4, b5, b6, b7⟩ := HOF.out.bounds hk1 hk2
    have hl := HOF.out.2.2.1
    have := solve_any (w := V) x _ l' size hx (lnsTo_length ..) (lnsTo_ok hl HK.out HO.out) (by omega) (by omega) (by omega) (fun c hc => by
      rw [lnsTo_sys hl]
      exact val_full hl hsd.2.1 hc)
    rwa [lnsTo_sys hl] at this
  have HSAT : Hid (∀ V, Below w2.heap.size w2 V → V.cell? ⟨g1, 0, none⟩ = some (.int .i64 (k : Int)) ∧ V.cell? ⟨g1, 1, none⟩ = some (.int .i64 (s' : Int)) ∧ V.cell? ⟨g1, 2, none⟩ = some (.int .i64 (h' : Int)) ∧ V.cell? ⟨g1, 3, none⟩ = some (.int .i64 (l' : Int)) ∧ V.cell? ⟨g1, 4, none⟩ = some (.int .i64 (p' : Int))) := Lib.hid fun V hV => (HX2.out.mono hV).cells
  have HSD0 := Lib.hid (HSAT.out _ hbd)
  have HGN : Hid (w.heap.size ≠ g1) := Lib.hid fun e => by
    have h1 := HX1.out
    have h2 := HR1.out
    rw [← e] at h1
    have h3 := h1.symm.trans h2
    simp [parC] at h3
  have HNE : Hid (∀ i j, (⟨w.heap.size, i, none⟩ : Addr) ≠ ⟨g1, j, none⟩) := Lib.hid fun i j e => HGN.out (congrArg Addr.block e)
  unfold parV parC at HLI
  clear hof hsd hb2 hbd c0 c1 c2 c3 c4
  go_upto_region 3 with fail
  go_region_held3 (fun w' => w'.cell? ⟨g1, 0, none⟩ = some (.int .i64 (k : Int)) ∧ w'.cell? ⟨g1, 1, none⟩ = some (.int .i64 (s' : Int)) ∧ w'.cell? ⟨g1, 2, none⟩ = some (.int .i64 (h' : Int)) ∧ w'.cell? ⟨g1, 3, none⟩ = some (.int .i64 (l' : Int)) ∧ w'.cell? ⟨g1, 4, none⟩ = some (.int .i64 (p' : Int)))
    (first | (with_reducible exact HSD0.out) | (with_reducible exact HSAT.out _ HB4.out) | (with_reducible exact HSAT.out _ HB3.out) | (obtain ⟨k0, k1, k2, k3, k4⟩ := HSAT.out _ HB4.out; refine ⟨?_, ?_, ?_, ?_, ?_⟩ <;> (repeat (with_reducible rw [World.cell?_setCell_other _ _ _ _ (HNE.out _ _)])) <;> (with_reducible assumption)))
    (first
    | (go_at_call 50; (with_reducible refine HLI.out.mono ?_); rintro e w3 ⟨v3, rfl, hl3, hb3⟩; have HB3 := Lib.hid (HBD.out.trans (hb3.mono HBD.out.size)); have HP3 := Lib.hid (HSO.out w3 v3 hl3); clear hl3 hb3)
    | (go_at_call 49; (with_reducible refine HP3.out.mono ?_); rintro e w4 ⟨v4, U, rfl, hm4, ht4, hb4⟩; have HB4 := Lib.hid (HB3.out.trans (hb4.mono HB3.out.size)); have HM4 := Lib.hid hm4; have HT4 := Lib.hid ht4; have hr4 := HR2.out.mono HB4.out; have HR4 := Lib.hid hr4; obtain ⟨q0, q1, q2, q3, q4, q5, q6, q7⟩ := hr4.cells; have f0 := hr4.free 0; have f1 := hr4.free 1; have f2 := hr4.free 2; have f3 := hr4.free 3; have f4 := hr4.free 4; have f5 := hr4.free 5; have f6 := hr4.free 6; have f7 := hr4.free 7; obtain ⟨x4, y4, rfl, -, -, -⟩ := hm4.opens; clear hm4 ht4 hb4 hr4))
  all_goals
    have hM := HM4.out.away (fun r hr => by rw [(HT4.out.row r hr).1]; exact hz1) HR4.out (w' := ((((((((w4.setCell ⟨w.heap.size, 0, none⟩ (.int .i64 (k : Int))).setCell ⟨w.heap.size, 1, none⟩ (.int .i64 (s' : Int))).setCell ⟨w.heap.size, 2, none⟩ (.int .i64 (h' : Int))).setCell ⟨w.heap.size, 3, none⟩ (.int .i64 (l' : Int))).setCell ⟨w.heap.size, 4, none⟩ (.int .i64 (p' : Int))).setCell ⟨w.heap.size, 5, none⟩ (.int .i64 (sd : Int))).setCell ⟨w.heap.size, 6, none⟩ (.int .i64 (size : Int))).setCell ⟨w.heap.size, 7, none⟩ (.slice x4 U.length y4))) (fun x hx => by repeat rw [Below.heap_setCell _ _ _ _ hx])
    have HMM := Lib.hid hM
    have HBE := Lib.hid (ren_below (g := w.heap.size) (HB2.out.trans (HB4.out.mono HB2.out.size)) (Nat.le_refl _) (.int .i64 (k : Int)) (.int .i64 (s' : Int)) (.int .i64 (h' : Int)) (.int .i64 (l' : Int)) (.int .i64 (p' : Int)) (.int .i64 (sd : Int)) (.int .i64 (size : Int)) (.slice x4 U.length y4))
    have HST := Lib.hid (HR4.out.store (.int .i64 (k : Int)) (.int .i64 (s' : Int)) (.int .i64 (h' : Int)) (.int .i64 (l' : Int)) (.int .i64 (p' : Int)) (.int .i64 (sd : Int)) (.int .i64 (size : Int)) (.slice x4 U.length y4))
    clear hM q0 q1 q2 q3 q4 q5 q6 q7 f0 f1 f2 f3 f4 f5 f6 f7
    go_wp2
    refine bodyPost_ret (results_row1 rfl _ _ w.heap.size 58 _ (0, 0) _ rfl HST.out Tryz.underlying58 rfl (by kernel_rfl)) rfl ?_
    exact ⟨s', h', l', p', sd, _, U, rfl, HOF.out, HSD.out, HMM.out, HT4.out, HBE.out⟩
end Go.Proofs.YtkhdjjcflbdegaaGreatDoor
end
