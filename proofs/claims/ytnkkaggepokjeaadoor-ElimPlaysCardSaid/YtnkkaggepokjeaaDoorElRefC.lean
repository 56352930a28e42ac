/- Package geyserref05: longs. -/
import Derived.Test.YtnkkaggepokjeaaDoorElRefB
import Derived.Deep.AppendLies
import Derived.Deep.RegionLaw
namespace Go.Proofs.YtnkkaggepokjeaaDoor
open Go.RowKit Go.Extern.Stop Go.Stop Go.Extern

def longsTo (L : List Eqn) (n k : Nat) : List (List Bool) := (L.take k).map fun q => longB q.1 q.2 n
def longsE (L : List Eqn) (n : Nat) : List (List Bool) := L.map fun q => longB q.1 q.2 n
theorem longsTo_succ {L : List Eqn} {n k : Nat} (h : k < L.length) : longsTo L n (k + 1) = longsTo L n k ++ [longB (L.getD k noEq).1 (L.getD k noEq).2 n] := by
  unfold longsTo
  rw [List.take_succ_eq_append_getElem h, List.map_append]
  simp [h]
theorem longsTo_length {L : List Eqn} {n k : Nat} (h : k ≤ L.length) : (longsTo L n k).length = k := by unfold longsTo; rw [List.length_map, List.length_take]; omega
theorem longsTo_all (L : List Eqn) (n : Nat) : longsTo L n L.length = longsE L n := by unfold longsTo longsE; rw [List.take_length]
theorem longsE_snoc (L : List Eqn) (n : Nat) (q : Eqn) : longsE (L ++ [q]) n = longsE L n ++ [longB q.1 q.2 n] := by simp [longsE]
theorem longsE_length (L : List Eqn) (n : Nat) : (longsE L n).length = L.length := by simp [longsE]
theorem getD_mem_eq {L : List Eqn} {k : Nat} (h : k < L.length) : L.getD k noEq ∈ L := by
  rw [List.getD_eq_getElem?_getD, List.getElem?_eq_getElem h]; exact List.getElem_mem h

set_option maxRecDepth 1000000 in
set_option maxHeartbeats 2000000 in
theorem longs_any {w : World} (n size : Nat) (v vr vs0 : Value) (c : Bool) (L : List Eqn) (q : Eqn) (h : EqsAt w v L) (hr : ListAt wordV w vr q.1) (hs : ListAt byteV w vs0 q.2) (hok : ∀ p ∈ L, EqOk n size p) (hq : EqOk n size q)
    (hn : n ≤ 4096) (hsz64 : size ≤ 64) (hl : L.length ≤ 100000) :
    Calls Tryd.prog 59 #[sysV n size v c, vr, vs0] w fun e w' => ∃ v', e = .returned v' ∧ MatAt boolV w' v' (longsE (L ++ [q]) n) ∧ Below w.heap.size w w' := by
  obtain ⟨i0, hi0, hz0, hz1, hz2⟩ := info_parts info_brow
  have hk1 : kOf n ≤ 100000 := by unfold kOf; omega
  obtain ⟨ad, cap, rfl, hcap, hcm, hcell⟩ := h
  obtain ⟨w0, hw0, hb0, hs0, hsc⟩ := sys_laid w n size (.slice ad L.length cap) c
  have HB0 := Lib.hid hb0
  have HSC := Lib.hid hsc
  have HC := Lib.hid hcell
  have HW0 := Lib.hid hw0
  have HR := Lib.hid hr
  have HSY := Lib.hid hs
  have HOK := Lib.hid hok
  have HQK := Lib.hid hq
  obtain ⟨qr, qs⟩ := q
  obtain ⟨ar, cr, rfl, -, -, -⟩ := hr
  obtain ⟨asy, csy, rfl, -, -, -⟩ := hs
  clear hcell hsc hb0 hw0 hok hq
  unfold sysV
  go_enter Tryd.func59, Tryd.ntmps59
  go_wp2
  rw [← HW0.out]
  go_loopw [7, 8] (fun o i wr => ∃ k : Nat, k ≤ L.length ∧ i = .int .i64 k ∧ MatOwn boolV 4 w0.heap.size 65 wr o (longsTo L n k) ∧ Below w0.heap.size w0 wr) (fun _ i _ => L.length - (intOf i).toNat)
  case atStart => exact ⟨0, Nat.zero_le _, rfl, by rw [← hs0]; exact MatOwn.start w0 (Nat.le_refl _), (Below.refl _ _).alloc (Nat.le_refl _) _⟩
  case round =>
    obtain ⟨k, hk, rfl, ⟨vs, hown, hel⟩, hbel⟩ := hrel
    have hsz := hbel.size
    have hs2 : wr.cell? ⟨w.heap.size, 2, none⟩ = some (.slice ad L.length cap) := (HSC.out.mono hbel).2.2.1
    have hs1 : wr.cell? ⟨w.heap.size, 0, none⟩ = some (.int .i64 (n : Int)) := (HSC.out.mono hbel).1
    by_cases hlt : k < L.length
    · obtain ⟨b, off, rfl, hcc⟩ := HC.out (by omega)
      obtain ⟨x, y, hx, hy, hlx, hly⟩ := hcc k hlt
      have HLX := Lib.hid ((hlx.mono HB0.out).mono hbel)
      have HLY := Lib.hid ((hly.mono HB0.out).mono hbel)
      have HE := Lib.hid (HOK.out _ (getD_mem_eq hlt))
      obtain ⟨ax, cx, rfl, -, -, -⟩ := hlx
      obtain ⟨ay, cy, rfl, -, -, -⟩ := hly
      have hx0 := (HB0.out.cell (p := ⟨b, off + k * 2, none⟩) (World.block_lt_of_cell? w _ hx)).trans hx
      have hx1 := (hbel.cell (p := ⟨b, off + k * 2, none⟩) (World.block_lt_of_cell? w0 _ hx0)).trans hx0
      have hy0 := (HB0.out.cell (p := ⟨b, off + k * 2 + 1, none⟩) (World.block_lt_of_cell? w _ hy)).trans hy
      have hy1 := (hbel.cell (p := ⟨b, off + k * 2 + 1, none⟩) (World.block_lt_of_cell? w0 _ hy0)).trans hy0
      have HQ := Lib.hid (longsTo_length (n := n) hk)
      have HO := Lib.hid hown
      rw [longsTo_length hk] at HO
      have HEL := Lib.hid hel
      have HB := Lib.hid hbel
      have HS := Lib.hid (longsTo_succ (n := n) hlt)
      clear hcc hx hx0 hy hy0 hown hel hbel
      generalize L.getD k noEq = p at *
      obtain ⟨pr, ps⟩ := p
      simp only at hx1 hy1 HLX HLY HS
      have hbd : Below wr.heap.size wr wr.drew := (Below.refl _ _).drew
      have HLX := Lib.hid (HLX.out.mono hbd)
      have HLY := Lib.hid (HLY.out.mono hbd)
      have HO := Lib.hid (owns_kept HO.out hbd)
      have HEL := Lib.hid (fun i => (HEL.out i).mono hbd)
      have HB := Lib.hid (HB.out.trans (hbd.mono hsz))
      have hszd : w0.heap.size ≤ wr.drew.heap.size := HB.out.size
      clear hbd
      go_wp2_with fail
      go_region_law (first
        | (go_simp; go_at_call 66; refine (long_any _ _ pr ps n HLX.out HLY.out HE.out.2.1 HE.out.2.2.2.2 (by rw [HE.out.1]; exact hk1) hn (by rw [HE.out.2.2.2.1]; exact hsz64)).mono ?_; rintro e w1 ⟨vn, rfl, hvn, hbn⟩; have HEN : Hid (ElAt boolV 4 w0.heap.size w1 vn (longB pr ps n)) := Lib.hid (ElAt.own hvn); have HO3 := Lib.hid (owns_kept HO.out hbn); have HEL3 := Lib.hid (fun i => (HEL.out i).mono hbn); have HB3 := Lib.hid (HB.out.trans (hbn.mono hszd)); have hsz1 := HB3.out.size; generalize hM : n + 8 * ps.length = M at hvn; obtain ⟨an, cn, rfl, -, -⟩ := own_open hvn; clear hvn hbn HEL HO HB HLX HLY hM)
        | (refine step_append_lies _ rfl (.tmp 17) (.tmp 33) 105 rfl w0.heap.size 65 i0 (.slice none 0 0) 1 24 Tryd.underlying105 hi0 hz0 hz1 hz2 rfl (by decide) u7 k vs (by simp [Act.eval]) (HO3.out.alloc _) ⟨w1.heap.size, 0, none⟩ 1 1 [.slice an M cn] (by simp [Act.eval]) rfl (cell_one_new _ _ _) (fun x hx => by simp at hx; subst hx; rfl) (by decide) (by unfold maxLen; omega) (by omega) (by simp; omega) _ rfl ?_; intro g2 c2 w2 hown1 hgrow1 _ _; have hb2 := Lib.hid ((HB3.out.alloc hsz1 _).grown hgrow1 (by simp; omega) (fun k hk => (HO3.out.lt k hk).1)); have ho2 : Hid (MatOwn boolV 4 w0.heap.size 65 w2 _ (longsTo L n k ++ [longB pr ps n])) := Lib.hid (MatOwn.app (by decide) (by rw [HQ.out]; exact HO3.out) HEL3.out HEN.out (by rw [HQ.out]; exact hown1) hgrow1); clear hown1 hgrow1))
      all_goals go_wp2
      all_goals exact ⟨⟨k + 1, by omega, by go_num, by rw [HS.out]; exact ho2.out, hb2.out⟩, by simp [intOf]; omega⟩
    · have hk' : k = L.length := by omega
      have HQ := Lib.hid (longsTo_length (n := n) hk)
      have HO := Lib.hid hown
      rw [longsTo_length hk] at HO
      have HEL := Lib.hid hel
      have HB := Lib.hid hbel
      have HRR := Lib.hid ((HR.out.mono HB0.out).mono hbel)
      have HSS := Lib.hid ((HSY.out.mono HB0.out).mono hbel)
      clear hown hel hbel HR HSY
      go_wp2_with fail
      go_loud (refine (long_any _ _ qr qs n HRR.out HSS.out HQK.out.2.1 HQK.out.2.2.2.2 (by have := HQK.out.1; simp only at this; rw [this]; exact hk1) hn (by have := HQK.out.2.2.2.1; simp only at this; rw [this]; exact hsz64)).mono ?_)
      rintro e w1 ⟨vn, rfl, hvn, hbn⟩
      have HEN : Hid (ElAt boolV 4 w0.heap.size w1 vn (longB qr qs n)) := Lib.hid (ElAt.own hvn)
      have HO3 := Lib.hid (owns_kept HO.out hbn)
      have HEL3 := Lib.hid (fun i => (HEL.out i).mono hbn)
      have HB3 := Lib.hid (HB.out.trans (hbn.mono hsz))
      have hsz1 := HB3.out.size
      generalize hM : n + 8 * qs.length = M at hvn
      obtain ⟨an, cn, rfl, -, -⟩ := own_open hvn
      clear hvn hbn HEL HO HB HRR HSS hM
      go_wp2_with (at_builtin; go_loud (refine wpList_append_own _ rfl _ _ 105 rfl w0.heap.size 65 i0 (.slice none 0 0) 1 24 Tryd.underlying105 hi0 hz0 hz1 hz2 rfl (by decide) u7 k vs rfl (HO3.out.alloc _) ⟨w1.heap.size, 0, none⟩ 1 1 [.slice an M cn] rfl rfl (cell_one_new _ _ _) (fun x hx => by simp at hx; subst hx; rfl) (by unfold maxLen; omega) (by omega) (by simp; omega) ?_; intro v2 w2 hown1 hgrow1 _; have hb2 := Lib.hid ((HB3.out.alloc hsz1 _).grown hgrow1 (by simp; omega) (fun k hk => (HO3.out.lt k hk).1)); have ho2 : Hid (MatOwn boolV 4 w0.heap.size 65 w2 v2 (longsTo L n k ++ [longB qr qs n])) := Lib.hid (MatOwn.app (by decide) (by rw [HQ.out]; exact HO3.out) HEL3.out HEN.out (by rw [HQ.out]; exact hown1) hgrow1); clear hown1 hgrow1))
      go_ret
      exact ⟨_, rfl, by have := ho2.out.at; rw [hk', longsTo_all] at this; rw [longsE_snoc]; exact this, HB0.out.trans (hb2.out.mono (by omega))⟩
end Go.Proofs.YtnkkaggepokjeaaDoor
