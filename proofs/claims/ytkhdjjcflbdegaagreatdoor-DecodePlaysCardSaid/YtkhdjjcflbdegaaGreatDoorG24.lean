import Derived.Test.YtkhdjjcflbdegaaGreatDoorG23
import Derived.Test.YtkhdjjcflbdegaaGreatDoorG16

section
/- Package elim: (*System).Add, of an equation of the system's. -/
namespace Go.Proofs.YtkhdjjcflbdegaaGreatDoor
open Go.RowKit Go.Extern.Stop Go.Stop Go.Extern

def ElAddPost (w w' : World) (b kb n size : Nat) (f : Nat → Option Eqn) (l : Vec) (k : Nat) : Prop :=
  Touch b kb w w' ∧ k = kindV n (stL (uF f n) n) l ∧ ∃ f' rv' sv', SysM w' b kb n size f' rv' sv' (decide (k = 3)) ∧ (k = 1 → SpEq (stL (uF f' n) n) (stL (uF f n) n ++ [l]) ∧ cntF f' n = cntF f n + 1) ∧ (k ≠ 1 → f' = f)

set_option maxRecDepth 1000000 in
set_option maxHeartbeats 4000000 in
theorem elAdd_any {w : World} (b kb n size : Nat) (f : Nat → Option Eqn) (rv sv : Nat → Value) (v1 v2 : Value) (row sym : List Nat) (hS : SysM w b kb n size f rv sv false) (hT : Tab w)
    (h1 : ListAt wordV w v1 row) (h2 : ListAt byteV w v2 sym) (hok : EqOk n size (row, sym)) :
    Calls Tryz.prog 35 #[sysP b, v1, v2] w fun e w' => ∃ k : Nat, e = .returned (.tuple #[.int .i64 (k : Int), .nilIface]) ∧ ElAddPost w w' b kb n size f (longV row sym n) k := by
  obtain ⟨hn1, hn2, hs1, hs2⟩ := hS.num
  have hK64 : kOf n ≤ 64 := kOf_le hn2
  have hKp : 0 < kOf n := by unfold kOf; omega
  obtain ⟨hc0, hc1, hc2, hc3, hc4⟩ := hS.cells
  have hne := hS.ne
  have HS := Lib.hid hS
  have HT := Lib.hid hT
  have HOK := Lib.hid hok
  have HR := Lib.hid h1
  have HSY := Lib.hid h2
  have HWB : Hid (wholeB n row = true) := Lib.hid (wholeB_iff.2 ⟨hok.1, hok.2.2.1⟩)
  have hsl : sym.length = size := hok.2.2.2.1
  have HSL := Lib.hid hsl
  have HRL : Hid (row.length = kOf n) := Lib.hid hok.1
  have HC4 := Lib.hid hc4
  have HCN := Lib.hid (cntF_le f n)
  obtain ⟨a1, cp1, rfl, -, -, -⟩ := h1
  obtain ⟨a2, cp2, rfl, -, -, -⟩ := h2
  have hq : ((sym.length : Int) != (size : Int)) = false := by simp; omega
  have hq2 : ((sym.length : Int) == (size : Int)) = true := by simp; omega
  clear hS hT hok hsl
  go_enter Tryz.func35, Tryz.ntmps35
  go_wp2_with fail
  refine (over_any b false HC4.out).mono ?_
  rintro e w1 ⟨rfl, rfl⟩
  go_wp2_with fail
  refine (eformed_any _ row n HR.out HOK.out.2.1 hn2).mono ?_
  rintro e w1 ⟨rfl, rfl⟩
  rw [HWB.out]
  go_wp2_with fail
  refine (eqClone_any _ _ row sym HR.out HSY.out (by rw [HRL.out]; omega) (by rw [HSL.out]; omega)).mono ?_
  rintro e w1 ⟨p1, p2, rfl, ho1, ho2, -, -, hb1⟩
  rw [HRL.out] at ho1
  rw [HSL.out] at ho2
  have HO1 := Lib.hid ho1
  have HO2 := Lib.hid ho2
  have HB1 := Lib.hid hb1
  obtain ⟨g1, cg1, rfl⟩ := own_nonnil ho1 hKp
  obtain ⟨g2, cg2, rfl⟩ := own_nonnil ho2 (by omega)
  clear ho1 ho2 hb1
  go_wp2_with fail
  obtain ⟨wz, hwz⟩ : ∃ wz, wz = w1.alloc (.cells #[.slice (some ⟨g1, 0, none⟩) (kOf n) cg1, .slice (some ⟨g2, 0, none⟩) size cg2] 120) := ⟨_, rfl⟩
  rw [← hwz]
  have hbz : Below w1.heap.size w1 wz := by rw [hwz]; exact (Below.refl _ _).alloc (Nat.le_refl _) _
  have hzz : wz.heap[w1.heap.size]? = some (.cells #[.slice (some ⟨g1, 0, none⟩) (kOf n) cg1, .slice (some ⟨g2, 0, none⟩) size cg2] 120 (0, 0)) := by rw [hwz]; exact heap_alloc_new w1 _
  have hzs : w1.heap.size < wz.heap.size := (Array.getElem?_eq_some_iff.1 hzz).1
  have HZZ := Lib.hid hzz
  have hg1 := (HO1.out.lt g1 rfl).2
  have hg2 := (HO2.out.lt g2 rfl).2
  refine (down_any (w0 := w) (w := wz) b kb n size f rv sv false g1 cg1 g2 cg2 row sym HS.out HT.out (HB1.out.trans (hbz.mono HB1.out.size)) (owns_kept HO1.out hbz) (owns_kept HO2.out hbz) HOK.out).mono ?_
  rintro e w4 ⟨x, y, hd, hp1, hp2, hb4, hfr, hres⟩
  have hX := hfr w1.heap.size hzs (by omega) (by omega)
  have hX0 : w4.cell? ⟨w1.heap.size, 0, none⟩ = some (.slice (some ⟨g1, 0, none⟩) (kOf n) cg1) := cell_of_heap (hX.trans HZZ.out) rfl
  have hX1 : w4.cell? ⟨w1.heap.size, 1, none⟩ = some (.slice (some ⟨g2, 0, none⟩) size cg2) := cell_of_heap (hX.trans HZZ.out) rfl
  have HS4 := Lib.hid (HS.out.mono hb4)
  have HD := Lib.hid hd
  have HP1 := Lib.hid hp1
  have HP2 := Lib.hid hp2
  have HB4 := Lib.hid hb4
  have HST := Lib.hid HS.out.stair
  clear hwz hbz hzz hfr hX hp1 hp2 hb4 hd hg1 hg2 hzs HZZ HOK
  rcases hres with ⟨rfl, hz⟩ | ⟨c, rfl, hcn, hfc, hld⟩
  · cases hzb : zeroB y with
    | true =>
      have HZB := Lib.hid hzb
      have HZ := Lib.hid hz
      clear hzb hz
      go_wp2_with fail
      refine (Zero_any _ y (ListAt.of_owns HP2.out)).mono ?_
      rintro e w5 ⟨rfl, rfl⟩
      rw [HZB.out]
      go_wp2
      go_ret2
      have hy0 : ∀ j, y.getD j 0 = 0 := fun j => by
        by_cases hj : j < y.length
        · have := List.all_eq_true.1 HZB.out _ (List.getElem_mem hj)
          rw [List.getD_eq_getElem?_getD, List.getElem?_eq_getElem hj]
          simpa using this
        · simp [List.getD_eq_getElem?_getD, Nat.not_lt.1 hj]
      have hsp := HD.out.span
      rw [longV_zero HZ.out hy0, vadd_comm, vadd_zero] at hsp
      exact ⟨2, rfl, Touch.of HB4.out, (kindV_known hsp).symm, f, rv, sv, HS4.out, fun h => absurd h (by decide), fun _ => rfl⟩
    | false =>
      have HZB := Lib.hid hzb
      have HZ := Lib.hid hz
      have hf4 := frozen_of_heap (j := 4) HS4.out.obj
      have hc4' := HS4.out.cells.2.2.2.2
      clear hzb hz
      go_wp2_with fail
      refine (Zero_any _ y (ListAt.of_owns HP2.out)).mono ?_
      rintro e w5 ⟨rfl, rfl⟩
      rw [HZB.out]
      go_wp2
      go_ret2
      have hy0 : ∃ j, y.getD j 0 ≠ 0 := by
        apply Classical.byContradiction
        intro hno
        have : zeroB y = true := by
          unfold zeroB
          rw [List.all_eq_true]
          intro z hz
          obtain ⟨j, hj, rfl⟩ := List.getElem_of_mem hz
          have h1 : ¬ y.getD j 0 ≠ 0 := fun h => hno ⟨j, h⟩
          rw [List.getD_eq_getElem?_getD, List.getElem?_eq_getElem hj] at h1
          simpa using h1
        rw [this] at HZB
        exact Bool.noConfusion HZB.out
      obtain ⟨j, hj⟩ := hy0
      have hk3 : kindV n (stL (uF f n) n) (longV row sym n) = 3 := kindV_clash HST.out HD.out.span (fun c hc => by rw [longV_row hc, HZ.out]; rfl) (longV_ne HD.out.ok.2.2.2.2 hj)
      exact ⟨3, rfl, (Touch.of HB4.out).setCell (p := ⟨b, 4, none⟩) (.inl rfl) _, hk3.symm, f, rv, sv, HS4.out.clash, fun h => absurd h (by decide), fun _ => rfl⟩
  · obtain ⟨hc0, hc1, hc2, hc3, hc4⟩ := HS4.out.cells
    obtain ⟨hk0, hk1⟩ := HS4.out.kcell c hcn
    obtain ⟨cur, hkob⟩ := HS4.out.kobj
    have hf0 := frozen_of_heap (j := c * 2) hkob
    have hf1 := frozen_of_heap (j := c * 2 + 1) hkob
    have hf3 := frozen_of_heap (j := 3) HS4.out.obj
    have HFC := Lib.hid hfc
    have HLD := Lib.hid hld
    have hcI : (c : Int) < (n : Int) := by omega
    have hcI0 : (0 : Int) ≤ (c : Int) := by omega
    have hcnt := HCN.out
    clear hkob hfc hld
    generalize hcq : cntF f n = cq at *
    have hwr : IntKind.i64.wrap ((cq : Int) + 1) = (cq : Int) + 1 := IntWalk.i64_in _ (by omega)
    go_wp2_with fail
    go_region
    go_wp2
    go_ret2
    have hk1 : kindV n (stL (uF f n) n) (longV row sym n) = 1 := kindV_fresh HST.out HD.out.span hcn (uF_none HFC.out) (longV_lead hcn HLD.out)
    have hput := HS4.out.put (q := (x, y)) hcn HFC.out (ownsRow_base HP1.out (Nat.zero_le _)) (ownsRow_base HP2.out (Nat.zero_le _)) HD.out.ok HLD.out
    rw [hcq] at hput
    refine ⟨1, rfl, ?_, hk1.symm, putF f c (x, y), updV rv c (.slice (some ⟨g1, 0, none⟩) (kOf n) cg1), updV sv c (.slice (some ⟨g2, 0, none⟩) size cg2), ?_, fun _ => ⟨?_, ?_⟩, fun h => absurd rfl h⟩
    · exact (((Touch.of HB4.out).setCell (p := ⟨kb, c * 2, none⟩) (.inr rfl) _).setCell (p := ⟨kb, c * 2 + 1, none⟩) (.inr rfl) _).drew.setCell (p := ⟨b, 3, none⟩) (.inl rfl) _
    · exact hput.mono (Below.refl _ _).drew
    · rw [uF_put]
      exact stair_snoc HD.out.span hcn (uF_none HFC.out)
    · rw [cntF_put HFC.out hcn, hcq]
end Go.Proofs.YtkhdjjcflbdegaaGreatDoor
end

section
/- Package elim: New; (*System).Value. -/
namespace Go.Proofs.YtkhdjjcflbdegaaGreatDoor
open Go.RowKit Go.Extern.Stop Go.Stop Go.Extern

def nameElNew : ByteArray := ⟨#[101, 108, 105, 109, 46, 78, 101, 119]⟩
def nameElValue : ByteArray := ⟨#[101, 108, 105, 109, 46, 86, 97, 108, 117, 101]⟩

theorem info_eqn : (Tryz.prog.info? 120).map (fun i => (i.zero, i.size, i.bytes)) = some (some (.agg #[.slice none 0 0, .slice none 0 0]), 2, 48) := by kernel_rfl

theorem made_pair (z : Value) (m j : Nat) (h : j < m) : (madeCells #[z, z] m).toList[j]? = some z := by
  unfold madeCells
  simp [h]
  rcases Nat.mod_two_eq_zero_or_one j with e | e <;> rw [e] <;> rfl

theorem elNew_bad {w : World} (n size : Int) (h : n < 1 ∨ 4096 < n ∨ size < 1 ∨ 64 < size) :
    Calls Tryz.prog 32 #[.int .i64 n, .int .i64 size] w fun e w' => ∃ E, e = .returned (.tuple #[nilP, E]) ∧ ErrAns 1 nameElNew w' E ∧ Below w.heap.size w w' := by
  by_cases h1 : n < 1
  · clear h
    go_enter Tryz.func32, Tryz.ntmps32
    go_wp2_with fail
    refine (New_ans nameElNew 1 (by decide) _).mono ?_
    rintro e w1 ⟨E1, rfl, he1, hb1⟩
    have HE1 := Lib.hid he1
    have HB1 := Lib.hid hb1
    obtain ⟨u, x, rfl⟩ := he1.some (by decide)
    clear he1 hb1
    go_wp2
    go_ret2
    exact ⟨_, rfl, HE1.out, HB1.out⟩
  by_cases h2 : 4096 < n
  · clear h
    go_enter Tryz.func32, Tryz.ntmps32
    go_wp2_with fail
    refine (New_ans nameElNew 1 (by decide) _).mono ?_
    rintro e w1 ⟨E1, rfl, he1, hb1⟩
    have HE1 := Lib.hid he1
    have HB1 := Lib.hid hb1
    obtain ⟨u, x, rfl⟩ := he1.some (by decide)
    clear he1 hb1
    go_wp2
    go_ret2
    exact ⟨_, rfl, HE1.out, HB1.out⟩
  by_cases h3 : size < 1
  · clear h
    go_enter Tryz.func32, Tryz.ntmps32
    go_wp2_with fail
    refine (New_ans nameElNew 1 (by decide) _).mono ?_
    rintro e w1 ⟨E1, rfl, he1, hb1⟩
    have HE1 := Lib.hid he1
    have HB1 := Lib.hid hb1
    obtain ⟨u, x, rfl⟩ := he1.some (by decide)
    clear he1 hb1
    go_wp2
    go_ret2
    exact ⟨_, rfl, HE1.out, HB1.out⟩
  · have h4 : 64 < size := by omega
    clear h
    go_enter Tryz.func32, Tryz.ntmps32
    go_wp2_with fail
    refine (New_ans nameElNew 1 (by decide) _).mono ?_
    rintro e w1 ⟨E1, rfl, he1, hb1⟩
    have HE1 := Lib.hid he1
    have HB1 := Lib.hid hb1
    obtain ⟨u, x, rfl⟩ := he1.some (by decide)
    clear he1 hb1
    go_wp2
    go_ret2
    exact ⟨_, rfl, HE1.out, HB1.out⟩

set_option maxRecDepth 1000000 in
theorem elNew_any {w : World} (n size : Nat) (hn1 : 1 ≤ n) (hn2 : n ≤ 4096) (hs1 : 1 ≤ size) (hs2 : size ≤ 64) :
    Calls Tryz.prog 32 #[.int .i64 (n : Int), .int .i64 (size : Int)] w fun e w' => ∃ b kb, e = .returned (.tuple #[sysP b, .nilIface]) ∧ SysM w' b kb n size (fun _ => none) (fun _ => nilS) (fun _ => nilS) false ∧
      w.heap.size ≤ b ∧ w.heap.size ≤ kb ∧ Below w.heap.size w w' := by
  obtain ⟨i0, hi, hz0, hz1, hz2⟩ := info_parts info_eqn
  have h1 : (1 : Int) ≤ (n : Int) := by omega
  have h2 : (n : Int) ≤ 4096 := by omega
  have h3 : (1 : Int) ≤ (size : Int) := by omega
  have h4 : (size : Int) ≤ 64 := by omega
  go_enter Tryz.func32, Tryz.ntmps32
  go_wp2_with (at_make; refine wpList_make_full _ rfl _ _ 109 rfl w.heap.size 120 i0 (.agg #[.slice none 0 0, .slice none 0 0]) 2 Tryz.underlying109 hi hz0 hz1 .i64 .i64 _ _ n rfl rfl rfl rfl (by rw [hz2]; omega) (by unfold maxLen; omega) (Nat.le_refl _) ?_; intro w0 hown0 hgrow0; have hb0 := Lib.hid ((Below.refl w.heap.size w).grown hgrow0 (Nat.le_refl _) (fun k hk => by cases hk)); have ho0 := Lib.hid hown0; clear hown0 hgrow0)
  go_ret2
  have hk : ∃ cur, w0.heap[w.heap.size]? = some (.cells cur 120 (0, 0)) := by
    rcases ho0.out.2 with ⟨e1, _⟩ | ⟨g, cap, cur, e1, _, h3, _⟩
    · cases e1
    · have : w.heap.size = g := by simpa [Value.ownBlock] using congrArg Value.ownBlock e1
      rw [this]; exact ⟨cur, h3⟩
  obtain ⟨cur, hk⟩ := hk
  have hklt : w.heap.size < w0.heap.size := (Array.getElem?_eq_some_iff.1 hk).1
  have hk' := (Below.heap_alloc w0 (.cells (sysCells n size w.heap.size 0 false) 111) _ hklt).trans hk
  refine ⟨w0.heap.size, w.heap.size, rfl, ⟨?_, ⟨cur, hk'⟩, fun c hc => ?_, fun c hc => ⟨rfl, rfl⟩, hn1, hn2, hs1, hs2⟩, by omega, Nat.le_refl _, hb0.out.alloc (by omega) _⟩
  · rw [cntF_none]
    exact heap_alloc_new w0 _
  · have hx : ∀ j, j < n * 2 → w0.cell? ⟨w.heap.size, j, none⟩ = some nilS := fun j hj => by
      rw [ho0.out.cellAt j hj]
      exact made_pair _ _ _ hj
    have hbd : Below w0.heap.size w0 (w0.alloc (.cells (sysCells n size w.heap.size 0 false) 111)) := (Below.refl _ _).alloc (Nat.le_refl _) _
    exact ⟨(hbd.cell (p := ⟨w.heap.size, c * 2, none⟩) hklt).trans (hx _ (by omega)), (hbd.cell (p := ⟨w.heap.size, c * 2 + 1, none⟩) hklt).trans (hx _ (by omega))⟩
end Go.Proofs.YtkhdjjcflbdegaaGreatDoor
end

section
/- Package elim: (*System).Value. -/
namespace Go.Proofs.YtkhdjjcflbdegaaGreatDoor
open Go.RowKit Go.Extern.Stop Go.Stop Go.Extern

/-- A literal of one number. -/
theorem lit_one (w : World) (c : Int) : ∃ w0, w0 = w.alloc (.cells #[.int .i64 c] 3) ∧ Below w.heap.size w w0 ∧ ListAt intV w0 (.slice (some ⟨w.heap.size, 0, none⟩) 1 1) [c] :=
  ⟨_, rfl, (Below.refl _ _).alloc (Nat.le_refl _) _, _, 1, rfl, Nat.le_refl _, by unfold maxLen; omega, fun _ => ⟨w.heap.size, 0, rfl, fun j hj => by
    obtain rfl : j = 0 := by simpa using hj
    exact World.cell?_alloc_new _ _ _ _⟩⟩

theorem packs_unit {ws : List Nat} {c n : Nat} (hc : c < n) (h : Packs ws (kOf n) (inP [(c : Int)])) : bitW ws = unitV c ∧ ws.length = kOf n ∧ Word ws := by
  obtain ⟨h1, h2, h3⟩ := h
  refine ⟨?_, h1, h2⟩
  funext d
  by_cases hd : d < 64 * kOf n
  · rw [h3 d hd]
    unfold inP unitV
    simp
    omega
  · rw [bitW_out _ _ (by rw [h1]; omega)]
    have : d ≠ c := by unfold kOf at hd; omega
    simp [unitV, this]

end Go.Proofs.YtkhdjjcflbdegaaGreatDoor
end

section
/- Package elim: (*System).All, where there is nothing to tell; (*System).Clone of nil. -/
namespace Go.Proofs.YtkhdjjcflbdegaaGreatDoor
open Go.RowKit Go.Extern.Stop Go.Stop Go.Extern

def nameElAll : ByteArray := ⟨#[101, 108, 105, 109, 46, 65, 108, 108]⟩

theorem results_cell2 {P : Program} {fn : Func} {p q : Tmp} {ty uy : TypeId} (h : fn.results = #[.cell p ty, .cell q uy]) (tmps : Array Value) (w : World) (a b : Addr) (v x : Value) (hp : tmps.getD p undef = .pointer (some a)) (hq : tmps.getD q undef = .pointer (some b))
    (h1 : (isAgg ty).run P w = .ok false w) (h2 : (isAgg uy).run P w = .ok false w) (hv : w.cell? a = some v) (hx : w.cell? b = some x) : (results fn tmps).run P w = .ok (.tuple #[v, x]) w := by
  have hp' : tmps[p]?.getD undef = .pointer (some a) := by simpa using hp
  have hq' : tmps[q]?.getD undef = .pointer (some b) := by simpa using hq
  simp [results, h, hp', hq', asAddr, loadVar, h1, h2, hv, hx]

theorem agg_syms {w : World} : (isAgg 46).run Tryz.prog w = .ok false w := by simp [isAgg, run_underlying Tryz.underlying46]
theorem agg_error {w : World} : (isAgg 26).run Tryz.prog w = .ok false w := by simp [isAgg, run_underlying Tryz.underlying26]

/-- The boxes of All: its system, its results. -/
structure AllBox (w w0 : World) (p : Value) : Prop where
  bel : Below w.heap.size w w0
  lt : w.heap.size + 1 + 1 < w0.heap.size
  h0 : w0.heap[w.heap.size]? = some (.cells #[p] 72 (0, 0))
  h1 : w0.heap[w.heap.size + 1]? = some (.cells #[nilS] 46 (0, 0))
  h2 : w0.heap[w.heap.size + 1 + 1]? = some (.cells #[.nilIface] 26 (0, 0))
theorem all_laid (w : World) (p : Value) : ∃ w0, w0 = ((w.alloc (.cells #[p] 72)).alloc (.cells #[nilS] 46)).alloc (.cells #[.nilIface] 26) ∧ AllBox w w0 p := by
  have z1 : (w.alloc (.cells #[p] 72)).heap.size = w.heap.size + 1 := World.size_alloc _ _
  have z2 : ((w.alloc (.cells #[p] 72)).alloc (.cells #[nilS] 46)).heap.size = w.heap.size + 1 + 1 := by rw [World.size_alloc, z1]
  have a1 : (w.alloc (.cells #[p] 72)).heap[w.heap.size]? = some (.cells #[p] 72 (0, 0)) := heap_alloc_new w _
  have a2 := heap_alloc_new (w.alloc (.cells #[p] 72)) (.cells #[nilS] 46)
  rw [z1] at a2
  have a3 := heap_alloc_new ((w.alloc (.cells #[p] 72)).alloc (.cells #[nilS] 46)) (.cells #[.nilIface] 26)
  rw [z2] at a3
  refine ⟨_, rfl, (((Below.refl _ _).alloc (Nat.le_refl _) _).alloc (by omega) _).alloc (by omega) _, by rw [World.size_alloc, z2]; omega, ?_, ?_, a3⟩
  · rw [Below.heap_alloc _ _ _ (by omega), Below.heap_alloc _ _ _ (by omega)]; exact a1
  · rw [Below.heap_alloc _ _ _ (by omega)]; exact a2
theorem AllBox.mono {w w0 w1 : World} {p : Value} (h : AllBox w w0 p) (hb : Below w0.heap.size w0 w1) : AllBox w w1 p := by
  have hl := h.lt
  exact ⟨h.bel.trans (hb.mono (by omega)), Nat.lt_of_lt_of_le hl hb.size, (hb.block _ (by omega)).trans h.h0, (hb.block _ (by omega)).trans h.h1, (hb.block _ hl).trans h.h2⟩
/-- Its results, stored. -/
theorem AllBox.done {w w0 : World} {p v e : Value} (h : AllBox w w0 p) : ((w0.setCell ⟨w.heap.size + 1, 0, none⟩ v).setCell ⟨w.heap.size + 1 + 1, 0, none⟩ e).cell? ⟨w.heap.size + 1, 0, none⟩ = some v ∧
    ((w0.setCell ⟨w.heap.size + 1, 0, none⟩ v).setCell ⟨w.heap.size + 1 + 1, 0, none⟩ e).cell? ⟨w.heap.size + 1 + 1, 0, none⟩ = some e ∧ Below w.heap.size w ((w0.setCell ⟨w.heap.size + 1, 0, none⟩ v).setCell ⟨w.heap.size + 1 + 1, 0, none⟩ e) := by
  refine ⟨?_, ?_, (h.bel.setCell (p := ⟨w.heap.size + 1, 0, none⟩) (show w.heap.size ≤ w.heap.size + 1 by omega) _).setCell (p := ⟨w.heap.size + 1 + 1, 0, none⟩) (show w.heap.size ≤ w.heap.size + 1 + 1 by omega) _⟩
  · rw [World.cell?_setCell_other (h := addr_ne (.inl (by omega)))]
    exact World.cell?_setCell_same _ _ _ (cell_of_heap h.h1 rfl)
  · refine World.cell?_setCell_same _ _ _ (u := .nilIface) ?_
    rw [World.cell?_setCell_other (h := addr_ne (.inl (by omega)))]
    exact cell_of_heap h.h2 rfl
/-- What an error is outlives the storing of the results. -/
theorem AllBox.err {w w0 : World} {p v e E : Value} {k : Int} {c : ByteArray} (h : AllBox w w0 p) (he : ErrAns k c w0 E) : ErrAns k c ((w0.setCell ⟨w.heap.size + 1, 0, none⟩ v).setCell ⟨w.heap.size + 1 + 1, 0, none⟩ e) E :=
  errAns_kept2 he fun b s hc => by
    have n1 : b ≠ w.heap.size + 1 := by
      rintro rfl
      rw [cell_of_heap (j := 0) (u := nilS) h.h1 rfl] at hc
      cases hc
    have n2 : b ≠ w.heap.size + 1 + 1 := by
      rintro rfl
      rw [cell_of_heap (j := 0) (u := .nilIface) h.h2 rfl] at hc
      cases hc
    rw [Below.heap_setCell _ _ _ _ n2, Below.heap_setCell _ _ _ _ n1]

theorem elAll_nil {w : World} : Calls Tryz.prog 45 #[nilP] w fun e w' => ∃ E, e = .returned (.tuple #[nilS, E]) ∧ ErrAns 7 nameElAll w' E ∧ Below w.heap.size w w' := by
  obtain ⟨w0, hw0, hbx⟩ := all_laid w nilP
  have HBX := Lib.hid hbx
  have HW0 := Lib.hid hw0
  have hc0 := cell_of_heap (j := 0) (u := nilP) hbx.h0 rfl
  clear hw0 hbx
  go_enter Tryz.func45, Tryz.ntmps45
  go_wp2_with fail
  rw [← HW0.out]
  refine over_nil.mono ?_
  rintro e w1 ⟨rfl, rfl⟩
  go_wp2_with fail
  refine (New_ans nameElAll 7 (by decide) _).mono ?_
  rintro e w1 ⟨E1, rfl, he1, hb1⟩
  have HBX1 := Lib.hid (HBX.out.mono hb1)
  have HE1 := Lib.hid he1
  have hc1 := cell_of_heap (j := 0) (u := nilS) HBX1.out.h1 rfl
  have hc2 := cell_of_heap (j := 0) (u := .nilIface) HBX1.out.h2 rfl
  have hf1 := frozen_of_heap (j := 0) HBX1.out.h1
  have hf2 := frozen_of_heap (j := 0) HBX1.out.h2
  obtain ⟨u, x, rfl⟩ := he1.some (by decide)
  clear he1 hb1
  go_wp2
  obtain ⟨d1, d2, d3⟩ := HBX1.out.done (v := nilS) (e := .iface u x)
  refine bodyPost_ret (results_cell2 rfl _ _ _ _ _ _ rfl rfl agg_syms agg_error d1 d2) rfl ?_
  exact ⟨_, rfl, HBX1.out.err HE1.out, d3⟩
theorem elAll_over {w : World} (b : Nat) (h : w.cell? ⟨b, 4, none⟩ = some (.bool true)) : Calls Tryz.prog 45 #[sysP b] w fun e w' => ∃ E, e = .returned (.tuple #[nilS, E]) ∧ ErrAns 7 nameElAll w' E ∧ Below w.heap.size w w' := by
  obtain ⟨w0, hw0, hbx⟩ := all_laid w (sysP b)
  have HBX := Lib.hid hbx
  have HW0 := Lib.hid hw0
  have HC := Lib.hid ((hbx.bel.cell (p := ⟨b, 4, none⟩) (World.block_lt_of_cell? w _ h)).trans h)
  have hc0 := cell_of_heap (j := 0) (u := sysP b) hbx.h0 rfl
  clear hw0 hbx h
  go_enter Tryz.func45, Tryz.ntmps45
  go_wp2_with fail
  rw [← HW0.out]
  refine (over_any b true HC.out).mono ?_
  rintro e w1 ⟨rfl, rfl⟩
  go_wp2_with fail
  refine (New_ans nameElAll 7 (by decide) _).mono ?_
  rintro e w1 ⟨E1, rfl, he1, hb1⟩
  have HBX1 := Lib.hid (HBX.out.mono hb1)
  have HE1 := Lib.hid he1
  have hc1 := cell_of_heap (j := 0) (u := nilS) HBX1.out.h1 rfl
  have hc2 := cell_of_heap (j := 0) (u := .nilIface) HBX1.out.h2 rfl
  have hf1 := frozen_of_heap (j := 0) HBX1.out.h1
  have hf2 := frozen_of_heap (j := 0) HBX1.out.h2
  obtain ⟨u, x, rfl⟩ := he1.some (by decide)
  clear he1 hb1
  go_wp2
  obtain ⟨d1, d2, d3⟩ := HBX1.out.done (v := nilS) (e := .iface u x)
  refine bodyPost_ret (results_cell2 rfl _ _ _ _ _ _ rfl rfl agg_syms agg_error d1 d2) rfl ?_
  exact ⟨_, rfl, HBX1.out.err HE1.out, d3⟩
theorem elAll_none {w : World} (b n r : Nat) (h0 : w.cell? ⟨b, 0, none⟩ = some (.int .i64 (n : Int))) (h3 : w.cell? ⟨b, 3, none⟩ = some (.int .i64 (r : Int))) (h4 : w.cell? ⟨b, 4, none⟩ = some (.bool false)) (hr : r ≠ n) :
    Calls Tryz.prog 45 #[sysP b] w fun e w' => ∃ E, e = .returned (.tuple #[nilS, E]) ∧ ErrAns 4 nameElAll w' E ∧ Below w.heap.size w w' := by
  obtain ⟨w0, hw0, hbx⟩ := all_laid w (sysP b)
  have HBX := Lib.hid hbx
  have HW0 := Lib.hid hw0
  have hlt := World.block_lt_of_cell? w _ h0
  have HC0 := Lib.hid ((hbx.bel.cell (p := ⟨b, 0, none⟩) hlt).trans h0)
  have HC3 := Lib.hid ((hbx.bel.cell (p := ⟨b, 3, none⟩) hlt).trans h3)
  have HC := Lib.hid ((hbx.bel.cell (p := ⟨b, 4, none⟩) hlt).trans h4)
  have hc0 := cell_of_heap (j := 0) (u := sysP b) hbx.h0 rfl
  have HR := Lib.hid hr
  clear hw0 hbx h0 h3 h4 hr
  go_enter Tryz.func45, Tryz.ntmps45
  go_wp2_with fail
  rw [← HW0.out]
  refine (over_any b false HC.out).mono ?_
  rintro e w1 ⟨rfl, rfl⟩
  go_wp2_with fail
  refine (elWhole_any b n r false HC0.out HC3.out HC.out).mono ?_
  rintro e w1 ⟨rfl, hb1⟩
  have HBX1 := Lib.hid (HBX.out.mono hb1)
  rw [decide_eq_false HR.out]
  clear hb1 hc0 HBX
  simp only [Bool.not_false, Bool.and_false]
  go_wp2_with fail
  refine (New_ans nameElAll 4 (by decide) _).mono ?_
  rintro e w2 ⟨E1, rfl, he1, hb1⟩
  have HBX2 := Lib.hid (HBX1.out.mono hb1)
  have HE1 := Lib.hid he1
  have hc1 := cell_of_heap (j := 0) (u := nilS) HBX2.out.h1 rfl
  have hc2 := cell_of_heap (j := 0) (u := .nilIface) HBX2.out.h2 rfl
  have hf1 := frozen_of_heap (j := 0) HBX2.out.h1
  have hf2 := frozen_of_heap (j := 0) HBX2.out.h2
  obtain ⟨u, x, rfl⟩ := he1.some (by decide)
  clear he1 hb1
  go_wp2
  obtain ⟨d1, d2, d3⟩ := HBX2.out.done (v := nilS) (e := .iface u x)
  refine bodyPost_ret (results_cell2 rfl _ _ _ _ _ _ rfl rfl agg_syms agg_error d1 d2) rfl ?_
  exact ⟨_, rfl, HBX2.out.err HE1.out, d3⟩
theorem elClone_nil {w : World} : Calls Tryz.prog 60 #[nilP] w fun e w' => e = .returned nilP ∧ w = w' := by
  go_enter Tryz.func60, Tryz.ntmps60
  go_wp2
  go_ret
  exact ⟨rfl, rfl⟩
end Go.Proofs.YtkhdjjcflbdegaaGreatDoor
end
