import Derived.Test.YtkhdjjcflbdegaaGreatDoorG24
import Derived.Test.YtkhdjjcflbdegaaGreatDoorG52
import Derived.Test.YtkhdjjcflbdegaaGreatDoorG23
import Derived.Test.YtkhdjjcflbdegaaGreatDoorG12
import Derived.RangeFuncNested
import Derived.RangeFuncBound
import Derived.RangeFuncCalls
import Derived.RangeFuncLeaves
import Derived.Shelf.Abstract
import Derived.Shelf.RegionOpen
import Derived.OwnWalkIn
import Derived.TacticsInMore
import Derived.LoopNIn
import Derived.LoopIn

section
/- Package elim: its calls, by what a system's equations span. -/
namespace Go.Proofs.YtkhdjjcflbdegaaGreatDoor
open Go.RowKit Go.Extern.Stop Go.Stop Go.Extern

section
variable {w w' : World} {b n size r kb : Nat} {K : List Vec} {cl : Bool}

theorem Sys.base (h : Sys w b n size K r cl kb) : b < w.heap.size ∧ kb < w.heap.size ∧ b ≠ kb ∧ 1 ≤ n ∧ n ≤ 4096 ∧ 1 ≤ size ∧ size ≤ 64 ∧ r ≤ n := by
  obtain ⟨f, rv, sv, h1, h2, rfl⟩ := h
  exact ⟨h1.lt, h1.klt, h1.ne, h1.num.1, h1.num.2.1, h1.num.2.2.1, h1.num.2.2.2, cntF_le f n⟩
theorem Sys.cells (h : Sys w b n size K r cl kb) : w.cell? ⟨b, 0, none⟩ = some (.int .i64 (n : Int)) ∧ w.cell? ⟨b, 1, none⟩ = some (.int .i64 (size : Int)) ∧ w.cell? ⟨b, 2, none⟩ = some (.slice (some ⟨kb, 0, none⟩) n n) ∧
    w.cell? ⟨b, 3, none⟩ = some (.int .i64 (r : Int)) ∧ w.cell? ⟨b, 4, none⟩ = some (.bool cl) := by
  obtain ⟨f, rv, sv, h1, h2, rfl⟩ := h
  exact h1.cells
theorem Sys.congr {M : List Vec} (h : Sys w b n size K r cl kb) (e : SpEq K M) : Sys w b n size M r cl kb := by
  obtain ⟨f, rv, sv, h1, h2, h3⟩ := h
  exact ⟨f, rv, sv, h1, h2.trans e, h3⟩
theorem Sys.cons (h : Sys w b n size K r cl kb) : Cons n K := by
  obtain ⟨f, rv, sv, h1, h2, h3⟩ := h
  exact (stair_cons h1.stair).congr h2
theorem Sys.other {b' kb' n' size' r' : Nat} {K' : List Vec} {cl' : Bool} (h : Sys w b n size K r cl kb) (ho : Sys w b' n' size' K' r' cl' kb') (ht : Touch b kb w w') (hb : b' ≠ b) (hk : kb' ≠ kb) : Sys w' b' n' size' K' r' cl' kb' := by
  obtain ⟨f, rv, sv, h1, h2, h3⟩ := h
  obtain ⟨f', rv', sv', k1, k2⟩ := ho
  exact ⟨f', rv', sv', ht.other h1 k1 hb hk, k2⟩
theorem Sys.own {e : TypeId} {v : Value} {k base : Nat} {xs : List Value} (h : Sys w b n size K r cl kb) (ht : Touch b kb w w') (he : e ≠ 111 ∧ e ≠ 120) (ho : w.ownsRow base e 1 v k xs) : w'.ownsRow base e 1 v k xs := by
  obtain ⟨f, rv, sv, h1, h2, h3⟩ := h
  exact ht.own h1 he ho
end

theorem stL_none (n : Nat) : SpEq (stL (uF (fun _ => none) n) n) [] := .of
  (fun s hs => by
    obtain ⟨c, _, rfl⟩ := mem_stL.1 hs
    rw [uF_none rfl]
    exact Sp.zero _) (fun s hs => by cases hs)

theorem sysNew {w : World} (n size : Nat) (hn1 : 1 ≤ n) (hn2 : n ≤ 4096) (hs1 : 1 ≤ size) (hs2 : size ≤ 64) :
    Calls Tryz.prog 32 #[.int .i64 (n : Int), .int .i64 (size : Int)] w fun e w' => ∃ b kb, e = .returned (.tuple #[sysP b, .nilIface]) ∧ Sys w' b n size [] 0 false kb ∧
      w.heap.size ≤ b ∧ w.heap.size ≤ kb ∧ Below w.heap.size w w' := by
  refine (elNew_any n size hn1 hn2 hs1 hs2).mono ?_
  rintro e w' ⟨b, kb, rfl, h1, h2, h3, h4⟩
  exact ⟨b, kb, rfl, ⟨_, _, _, h1, stL_none n, cntF_none n⟩, h2, h3, h4⟩

theorem kindV_two {n : Nat} {K : List Vec} {l : Vec} (h : kindV n K l = 2) : Sp K l := by
  unfold kindV at h
  split at h
  · split at h
    · assumption
    · cases h
  · cases h
/-- The equations behind one more. -/
noncomputable def addV (n : Nat) (K : List Vec) (l : Vec) : List Vec := if kindV n K l = 3 then K else K ++ [l]
noncomputable def addR (n : Nat) (K : List Vec) (l : Vec) (r : Nat) : Nat := r + if kindV n K l = 1 then 1 else 0

theorem sysAdd {w : World} (b n size : Nat) (K : List Vec) (r kb : Nat) (v1 v2 : Value) (row sym : List Nat) (hS : Sys w b n size K r false kb) (hT : Tab w) (h1 : ListAt wordV w v1 row) (h2 : ListAt byteV w v2 sym) (hok : EqOk n size (row, sym)) :
    Calls Tryz.prog 35 #[sysP b, v1, v2] w fun e w' => e = .returned (.tuple #[.int .i64 (kindV n K (longV row sym n) : Nat), .nilIface]) ∧ Touch b kb w w' ∧
      Sys w' b n size (addV n K (longV row sym n)) (addR n K (longV row sym n) r) (decide (kindV n K (longV row sym n) = 3)) kb := by
  obtain ⟨f, rv, sv, k1, k2, rfl⟩ := hS
  refine (elAdd_any b kb n size f rv sv v1 v2 row sym k1 hT h1 h2 hok).mono ?_
  rintro e w' ⟨k, rfl, ht, hk, f', rv', sv', m1, m2, m3⟩
  rw [kindV_congr k2] at hk
  refine ⟨by rw [hk], ht, f', rv', sv', by rw [← hk]; exact m1, ?_, ?_⟩
  · unfold addV
    rw [← hk]
    by_cases e3 : k = 3
    · rw [if_pos e3, m3 (by omega)]; exact k2
    · rw [if_neg e3]
      by_cases e1 : k = 1
      · exact (m2 e1).1.trans (k2.snoc _)
      · rw [m3 e1]
        refine k2.trans ?_
        have : k = 2 := by
          have h : kindV n K (longV row sym n) = 1 ∨ kindV n K (longV row sym n) = 2 ∨ kindV n K (longV row sym n) = 3 := by
            unfold kindV; split
            · split
              · exact .inr (.inl rfl)
              · exact .inr (.inr rfl)
            · exact .inl rfl
          omega
        exact (SpEq.snoc_in (kindV_two (hk.symm.trans this))).symm
  · unfold addR
    rw [← hk]
    by_cases e1 : k = 1
    · rw [if_pos e1, (m2 e1).2]
    · rw [if_neg e1, m3 e1]; rfl

end Go.Proofs.YtkhdjjcflbdegaaGreatDoor
end

section
/- Package system: begin, formed, add. -/
namespace Go.Proofs.YtkhdjjcflbdegaaGreatDoor
open Go.RowKit Go.Extern.Stop Go.Stop Go.Extern

/-! ### memory that a system's calls leave as it is -/
theorem sys_kind {w w' : World} {b n size r kb : Nat} {K : List Vec} {cl : Bool} (hs : Sys w b n size K r cl kb) (ht : Touch b kb w w') {g : Nat} {cur : Array Value} {e : TypeId} (he : e ≠ 111 ∧ e ≠ 120) (hg : w.heap[g]? = some (.cells cur e (0, 0))) : w'.heap[g]? = w.heap[g]? := by
  obtain ⟨f, rv, sv, h1, -, -⟩ := hs
  refine ht.block g (Array.getElem?_eq_some_iff.1 hg).1 (fun e1 => ?_) (fun e1 => ?_)
  · have := h1.obj
    rw [← e1, hg] at this
    simp at this
    exact he.1 this.2
  · obtain ⟨cur', hc⟩ := h1.kobj
    rw [← e1, hg] at hc
    simp at hc
    exact he.2 hc.2
theorem own_at {w : World} {e : TypeId} {base k g : Nat} {v : Value} {xs : List Value} (h : w.ownsRow base e 1 v k xs) (hg : v.ownBlock = some g) : ∃ cur, w.heap[g]? = some (.cells cur e (0, 0)) := by
  rcases h.2 with ⟨rfl, _⟩ | ⟨g', cap, cur, rfl, hb, hh, _⟩
  · simp [Value.ownBlock] at hg
  · obtain rfl : g' = g := by simpa [Value.ownBlock] using hg
    exact ⟨cur, hh⟩
theorem MatFresh.same {α : Type} {f : α → Value} {w w' : World} {te e : TypeId} {base : Nat} {v : Value} {L : List (List α)} (h : MatFresh f te base e w v L) (hs : ∀ (g : Nat) (cur : Array Value) (t : TypeId), t = te ∨ t = e → w.heap[g]? = some (.cells cur t (0, 0)) → w'.heap[g]? = w.heap[g]?) : MatFresh f te base e w' v L := by
  obtain ⟨vs, h1, h2, h3⟩ := h
  refine ⟨vs, own_same h1 fun g cur hg => hs g cur e (.inr rfl) hg, fun i => ?_, h3⟩
  obtain ⟨⟨a, cap, ev, k1, k2, k3⟩, k4⟩ := h2 i
  by_cases hp : 0 < (L.getD i []).length
  · obtain ⟨b, off, rfl, hc⟩ := k3 hp
    have hob : (vs.getD i nilS).ownBlock = some b := by rw [ev]; rfl
    have hlt : base ≤ b := by
      by_cases hi : i < vs.length
      · have e1 : vs.getD i nilS = vs[i] := by simp [List.getD_eq_getElem?_getD, hi]
        exact h3 _ (List.getElem_mem hi) b (by rw [← e1]; exact hob)
      · rw [List.getD_eq_getElem?_getD, List.getElem?_eq_none (by omega)] at hob
        cases hob
    obtain ⟨cur, hcur⟩ := (k4 hp b hob).resolve_left (by omega)
    have hb := hs b cur te (.inl rfl) hcur
    refine ⟨⟨_, cap, ev, k1, k2, fun _ => ⟨b, off, rfl, fun j hj => ?_⟩⟩, fun _ b' hb' => ?_⟩
    · rw [World.cell?_of_block (w := w) (a := ⟨b, off + j, none⟩) hb]
      exact hc j hj
    · rw [hob] at hb'
      cases hb'
      exact .inr ⟨cur, hb.trans hcur⟩
  · exact ⟨⟨a, cap, ev, k1, k2, fun hp' => absurd hp' hp⟩, fun hp' => absurd hp' hp⟩
theorem MatFresh.touch {α : Type} {f : α → Value} {w w' : World} {te e : TypeId} {base b n size r kb : Nat} {K : List Vec} {cl : Bool} {v : Value} {L : List (List α)} (h : MatFresh f te base e w v L) (hs : Sys w b n size K r cl kb) (ht : Touch b kb w w')
    (he : (te ≠ 111 ∧ te ≠ 120) ∧ e ≠ 111 ∧ e ≠ 120) : MatFresh f te base e w' v L :=
  h.same fun g cur t ht2 hg => sys_kind hs ht (by rcases ht2 with rfl | rfl; exact he.1; exact he.2) hg
theorem ParBox.touch {w w' : World} {b n size r kb g : Nat} {K : List Vec} {cl : Bool} {k s h l p : Int} (hx : ParBox w g k s h l p) (hs : Sys w b n size K r cl kb) (ht : Touch b kb w w') : ParBox w' g k s h l p :=
  (sys_kind hs ht (by decide) (show w.heap[g]? = some (.cells _ _ (0, 0)) from hx)).trans hx

/-! ### an equation that is fresh -/
theorem sysAdd_fresh {w : World} (b n size : Nat) (K : List Vec) (r kb : Nat) (v1 v2 : Value) (row sym : List Nat) (hS : Sys w b n size K r false kb) (hT : Tab w) (h1 : ListAt wordV w v1 row) (h2 : ListAt byteV w v2 sym) (hok : EqOk n size (row, sym)) (hf : kindV n K (longV row sym n) = 1) :
    Calls Tryz.prog 35 #[sysP b, v1, v2] w fun e w' => e = .returned (.tuple #[.int .i64 1, .nilIface]) ∧ Touch b kb w w' ∧ Sys w' b n size (K ++ [longV row sym n]) (r + 1) false kb := by
  refine (sysAdd b n size K r kb v1 v2 row sym hS hT h1 h2 hok).mono ?_
  rintro e w' ⟨rfl, h3, h4⟩
  unfold addV addR at h4
  rw [hf] at h4 ⊢
  exact ⟨rfl, h3, h4⟩

set_option maxRecDepth 1000000 in
set_option maxHeartbeats 4000000 in
theorem begin_ok {w : World} (k s h l p size : Nat) (H : OfP k s h l p) (hk1 : 1 ≤ k) (hk2 : k ≤ 128) (hs1 : 1 ≤ size) (hs2 : size ≤ 64) (hT : Tab w) :
    Calls Tryz.prog 59 #[parV k s h l p, .int .i64 (size : Int)] w fun e w' => ∃ b kb, e = .returned (.tuple #[sysP b, .nilIface]) ∧ Sys w' b l size (sysF k s h l size) (s + h) false kb ∧ w.heap.size ≤ b ∧ w.heap.size ≤ kb ∧ Below w.heap.size w w' := by
  obtain ⟨i0, hi, hz0, hz1, hz2⟩ := info_parts info_u8
  obtain ⟨b1, b2, b3, b4, b5, b6, b7⟩ := H.bounds hk1 hk2
  have hl := H.2.2.1
  obtain ⟨w0, hw0, hb0, hbx⟩ := par_laid w k s h l p
  have HW0 := Lib.hid hw0
  have HB0 := Lib.hid hb0
  have HBX := Lib.hid hbx
  have HTW := Lib.hid hT
  obtain ⟨c0, c1, c2, c3, c4⟩ := hbx.cells
  have HN : Hid (Calls Tryz.prog 32 #[.int .i64 (l : Int), .int .i64 (size : Int)] w0 fun e w' => ∃ b kb, e = .returned (.tuple #[sysP b, .nilIface]) ∧ Sys w' b l size [] 0 false kb ∧ w0.heap.size ≤ b ∧ w0.heap.size ≤ kb ∧ Below w0.heap.size w0 w') := Lib.hid (sysNew l size (by omega) (by omega) hs1 hs2)
  have HF : Hid (∀ V, Calls Tryz.prog 63 #[.agg #[.int .i64 (k : Int), .int .i64 (s : Int), .int .i64 (h : Int), .int .i64 (l : Int), .int .i64 (p : Int)]] V fun e w' => ∃ g, e = .returned (.tuple #[.slice (some ⟨g, 0, none⟩) (s + h) (s + h), .nilIface]) ∧ MatFresh wordV 163 V.heap.size 79 w' (.slice (some ⟨g, 0, none⟩) (s + h) (s + h)) (packL l (rowsF0 k s h)) ∧ Below V.heap.size V w') := Lib.hid fun V => fixed_ok k s h l p H hk1 hk2
  have HRW : Hid (∀ i, i < s + h → (packL l (rowsF0 k s h)).getD i [] = packR l ((rowsF0 k s h).getD i [])) := Lib.hid fun i hi => packL_getD _ _ (by rw [rowsF0_length]; exact hi)
  have HLT : Hid (∀ i, i < s + h → ∀ c ∈ (rowsF0 k s h).getD i [], c < l) := Lib.hid fun i hi => by
    rw [hl]
    exact (rowsF0_getD (by rw [rowsF0_length]; exact hi) _ rfl).1
  have HK0 : Hid ((((rowsF0 k s h).take 0).map fun r => eqL l r (List.replicate size 0)) = []) := Lib.hid rfl
  have HKS : Hid (∀ i, i < s + h → (((rowsF0 k s h).take (i + 1)).map fun r => eqL l r (List.replicate size 0)) = (((rowsF0 k s h).take i).map fun r => eqL l r (List.replicate size 0)) ++ [eqL l ((rowsF0 k s h).getD i []) (List.replicate size 0)]) := Lib.hid fun i hi => takeF_succ hi
  have HKN : Hid ((((rowsF0 k s h).take (s + h)).map fun r => eqL l r (List.replicate size 0)) = sysF k s h l size) := Lib.hid takeF_all
  have HKF : Hid (∀ i, i < s + h → kindV l (((rowsF0 k s h).take i).map fun r => eqL l r (List.replicate size 0)) (eqL l ((rowsF0 k s h).getD i []) (List.replicate size 0)) = 1) := Lib.hid fun i hi => freshF hl hi _
  have hsh : s + h ≤ 40 := by omega
  have hll : (packL l (rowsF0 k s h)).length = s + h := by rw [packL_length, rowsF0_length]
  have HLL := Lib.hid hll
  obtain ⟨n, hn⟩ : ∃ n, s + h = n := ⟨_, rfl⟩
  rw [hn] at HF HRW HLT HKS HKN HKF hsh HLL ⊢
  have hb2w : w.heap.size ≤ w0.heap.size := hb0.size
  clear hw0 hb0 hbx H hT hk1 hk2 b1 b2 b3 b4 b5 b6 b7 hl hn hll
  generalize rowsF0 k s h = R at *
  generalize sysF k s h l size = KF at *
  unfold parV parC
  go_enter Tryz.func59, Tryz.ntmps59
  go_upto_region 1 with fail
  rw [← HW0.out]
  go_wp2_with fail
  refine HN.out.mono ?_
  rintro e w1 ⟨b, kb, rfl, hsys, hgb, hgk, hb1⟩
  have HS := Lib.hid hsys
  have HGB := Lib.hid (Nat.le_trans hb2w hgb)
  have HGK := Lib.hid (Nat.le_trans hb2w hgk)
  have HB1 := Lib.hid (HB0.out.trans (hb1.mono HB0.out.size))
  have hxc := HBX.out.mono hb1
  clear c0 c1 c2 c3 c4 hsys hgb hgk hb1 hb2w
  obtain ⟨c0, c1, c2, c3, c4⟩ := hxc.cells
  clear hxc
  go_wp2_with fail
  refine (HF.out _).mono ?_
  rintro e w2 ⟨g, rfl, hm, hb2⟩
  have HS2 := Lib.hid (HS.out.mono hb2)
  have HM := Lib.hid hm
  have HB2 := Lib.hid (HB1.out.trans (hb2.mono HB1.out.size))
  have hsz2 := HB2.out.size
  clear c0 c1 c2 c3 c4 hm hb2
  go_wp2_with (at_make; refine wpList_make_full _ rfl _ _ 37 rfl w.heap.size 5 i0 (.int .u8 0) 1 Tryz.underlying37 hi hz0 hz1 .i64 .i64 _ _ size rfl rfl rfl rfl (by rw [hz2]; omega) (by unfold maxLen; omega) hsz2 ?_; intro w3 hown0 hgrow0; have hb3 := Lib.hid ((Below.refl w2.heap.size w2).grown hgrow0 (Nat.le_refl _) (fun k hk => by cases hk)); have ho3 := Lib.hid hown0; clear hown0 hgrow0)
  have HS3 := Lib.hid (HS2.out.mono hb3.out)
  have HM3 := Lib.hid (HM.out.mono hb3.out)
  have HB3 := Lib.hid (HB2.out.trans (hb3.out.mono hsz2))
  have HO3 : Hid (w3.ownsRow w.heap.size 5 1 (.slice (some ⟨w2.heap.size, 0, none⟩) size size) size ((List.replicate size 0).map byteV)) := Lib.hid (by
    have := ho3.out
    rw [Nat.mul_one] at this
    rw [List.map_replicate]
    exact toList_madeCells_one (.int .u8 0) size ▸ this)
  have hlz : (List.replicate size 0).length = size := List.length_replicate
  have HLZ := Lib.hid hlz
  have HOZ := Lib.hid (octets_zero size)
  clear hb3 ho3 hlz HS HS2 HM
  generalize List.replicate size 0 = Z at *
  generalize w2.heap.size = g2 at *
  go_loopw [36] (fun i wr => ∃ j : Nat, j ≤ n ∧ i = .int .i64 j ∧ Sys wr b l size ((R.take j).map fun r => eqL l r Z) j false kb ∧ Touch b kb w3 wr) (fun i _ => n - (intOf i).toNat)
  case atStart => exact ⟨0, Nat.zero_le _, rfl, by rw [HK0.out]; exact HS3.out, Touch.of (Below.refl _ _)⟩
  case round =>
    obtain ⟨j, hj, rfl, hsys, htch⟩ := hrel
    have HSR := Lib.hid hsys
    have HTC := Lib.hid htch
    have hmr := HM3.out.touch HS3.out htch ⟨by decide, by decide⟩
    have HOR := Lib.hid (Sys.own HS3.out htch (by decide) HO3.out)
    have HBR := Lib.hid (HB3.out.trans (htch.below HGB.out HGK.out HB3.out.size))
    by_cases hlt : j < n
    · obtain ⟨vs, hv1, hv2, -⟩ := hmr
      rw [HLL.out] at hv1
      have hcs := hv1.cellAt j (by omega)
      have hel := (hv2 j).1
      rw [HRW.out j hlt] at hel
      have hvl : j < vs.length := by have := hv1.1; omega
      rw [List.getElem?_eq_getElem hvl] at hcs
      rw [List.getD_eq_getElem?_getD, List.getElem?_eq_getElem hvl, Option.getD_some] at hel
      have HAD : Hid (Calls Tryz.prog 35 #[sysP b, vs[j], .slice (some ⟨g2, 0, none⟩) size size] wr fun e w' => e = .returned (.tuple #[.int .i64 1, .nilIface]) ∧ Touch b kb wr w' ∧ Sys w' b l size ((R.take (j + 1)).map fun r => eqL l r Z) (j + 1) false kb) := Lib.hid (by
        rw [HKS.out j hlt]
        exact sysAdd_fresh b l size _ j kb _ _ (packR l (R.getD j [])) Z hsys (HTW.out.mono HBR.out) hel (ListAt.of_owns HOR.out) (eqL_ok (HLT.out j hlt) HLZ.out HOZ.out) (HKF.out j hlt))
      obtain ⟨ae, ce, hxe, -, -, -⟩ := hel
      clear hv1 hv2 hsys htch
      generalize vs[j] = x at *
      subst hxe
      go_wp2_with fail
      refine HAD.out.mono ?_
      rintro e w5 ⟨rfl, ht5, hs5⟩
      have HT5 := Lib.hid (HTC.out.trans ht5)
      have HS5 := Lib.hid hs5
      clear ht5 hs5 hcs
      go_wp2
      go_roundw
      case rel => exact ⟨j + 1, by omega, by go_num, HS5.out, HT5.out⟩
      case measure => simp [intOf]; omega
    · obtain rfl : j = n := by omega
      clear hmr hsys htch
      go_wp2
      go_ret2
      exact ⟨b, kb, rfl, by rw [← HKN.out]; exact HSR.out, HGB.out, HGK.out, HBR.out⟩
end Go.Proofs.YtkhdjjcflbdegaaGreatDoor
end

section
/- Package system: begin where the size is out of its range; formed, add. -/
namespace Go.Proofs.YtkhdjjcflbdegaaGreatDoor
open Go.RowKit Go.Extern.Stop Go.Stop Go.Extern

set_option maxRecDepth 1000000 in
set_option maxHeartbeats 4000000 in
theorem begin_bad {w : World} (k s h l p size : Int) (hb : size < 1 ∨ 64 < size) :
    Calls Tryz.prog 59 #[parV k s h l p, .int .i64 size] w (NoSays 1 nameElNew nilP w) := by
  obtain ⟨w0, hw0, hb0, hbx⟩ := par_laid w k s h l p
  have HW0 := Lib.hid hw0
  have HB0 := Lib.hid hb0
  obtain ⟨c0, c1, c2, c3, c4⟩ := hbx.cells
  have HN := Lib.hid (elNew_bad (w := w0) l size (.inr (.inr hb)))
  clear hw0 hb0 hbx hb
  unfold parV parC
  go_enter Tryz.func59, Tryz.ntmps59
  go_upto_region 1 with fail
  rw [← HW0.out]
  go_wp2_with fail
  refine HN.out.mono ?_
  rintro e w1 ⟨E, rfl, hea, hb1⟩
  have HEA := Lib.hid hea
  have HB1 := Lib.hid (HB0.out.trans (hb1.mono HB0.out.size))
  obtain ⟨u, x, rfl⟩ := hea.some (by decide)
  clear hea hb1 c0 c1 c2 c3 c4
  go_wp2
  go_ret2
  exact ⟨_, rfl, HEA.out, HB1.out⟩

/-- Are rows k symbols of a size? -/
def formedB (L : List (List Nat)) (k n : Int) : Bool := decide ((L.length : Int) = k) && L.all (fun r => decide ((r.length : Int) = n))
theorem formedB_yes {L : List (List Nat)} {k n : Int} (h : formedB L k n = true) : (L.length : Int) = k ∧ ∀ r ∈ L, (r.length : Int) = n := by
  unfold formedB at h
  rw [Bool.and_eq_true, List.all_eq_true] at h
  exact ⟨of_decide_eq_true h.1, fun r hr => of_decide_eq_true (h.2 r hr)⟩
set_option maxRecDepth 1000000 in
set_option maxHeartbeats 4000000 in
theorem add_ok {w : World} (b : Nat) (K : List Vec) (r kb : Nat) (k s h l p seed esi size : Nat) (v : Value) (y : List Nat) (hS : Sys w b l size K r false kb) (H : OfP k s h l p) (hk1 : 1 ≤ k) (hk2 : k ≤ 128) (hs : seed < 65536) (he : esi < 65536) (hv : ListAt byteV w v y) (hy : y.length = size) (ho : Octets y) (hT : DgTab w) (hB : Tab w) :
    Calls Tryz.prog 61 #[sysP b, parV k s h l p, .int .i64 (seed : Int), .int .i64 (esi : Int), v] w fun e w' => e = .returned (.tuple #[.int .i64 (kindV l K (eqL l (rowE l p seed esi) y) : Nat), .nilIface]) ∧ Touch b kb w w' ∧
      Sys w' b l size (addV l K (eqL l (rowE l p seed esi) y)) (addR l K (eqL l (rowE l p seed esi) y) r) (decide (kindV l K (eqL l (rowE l p seed esi) y) = 3)) kb := by
  obtain ⟨w0, hw0, hb0, hbx⟩ := par_laid w k s h l p
  have HW0 := Lib.hid hw0
  have HB0 := Lib.hid hb0
  obtain ⟨c0, c1, c2, c3, c4⟩ := hbx.cells
  have HD : Hid (Calls Tryz.prog 64 #[.agg #[.int .i64 (k : Int), .int .i64 (s : Int), .int .i64 (h : Int), .int .i64 (l : Int), .int .i64 (p : Int)], .int .i64 (seed : Int), .int .i64 (esi : Int)] w0 fun e' w' => ∃ a c, e' = .returned (.tuple #[.slice a (kOf l) c, .nilIface]) ∧ w'.ownsRow w0.heap.size 163 1 (.slice a (kOf l) c) (kOf l) ((packR l (rowE l p seed esi)).map wordV) ∧ Below w0.heap.size w0 w') := Lib.hid (drawn_ok k s h l p seed esi H hk1 hk2 hs he (PairsAt.mono hT hb0))
  have HA : Hid (∀ V a c, Below w.heap.size w V → ListAt wordV V (.slice a (kOf l) c) (packR l (rowE l p seed esi)) → Calls Tryz.prog 35 #[sysP b, .slice a (kOf l) c, v] V fun e w' => e = .returned (.tuple #[.int .i64 (kindV l K (eqL l (rowE l p seed esi) y) : Nat), .nilIface]) ∧ Touch b kb V w' ∧ Sys w' b l size (addV l K (eqL l (rowE l p seed esi) y)) (addR l K (eqL l (rowE l p seed esi) y) r) (decide (kindV l K (eqL l (rowE l p seed esi) y) = 3)) kb) := Lib.hid fun V a c hV hL =>
    sysAdd b l size K r kb _ _ (packR l (rowE l p seed esi)) y (hS.mono hV) (hB.mono hV) hL (hv.mono hV) (eqL_ok rowE_lt hy ho)
  obtain ⟨av, cv, hve, -, -, -⟩ := hv
  subst hve
  clear hw0 hb0 hbx H hT hB hk1 hk2 hs he hy ho hS
  generalize addV l K (eqL l (rowE l p seed esi) y) = K' at *
  generalize addR l K (eqL l (rowE l p seed esi) y) r = r' at *
  generalize kindV l K (eqL l (rowE l p seed esi) y) = kd at *
  unfold parV parC
  go_enter Tryz.func61, Tryz.ntmps61
  go_upto_region 1 with fail
  rw [← HW0.out]
  go_wp2_with fail
  refine HD.out.mono ?_
  rintro e w1 ⟨a1, q1, rfl, ho1, hb1⟩
  have HB1 := Lib.hid (HB0.out.trans (hb1.mono HB0.out.size))
  have HL1 := Lib.hid (ListAt.of_owns ho1)
  clear c0 c1 c2 c3 c4 ho1 hb1
  go_wp2_with fail
  refine (HA.out _ _ _ HB1.out HL1.out).mono ?_
  rintro e w2 ⟨rfl, ht2, hs2⟩
  have HT2 := Lib.hid ht2
  have HS2 := Lib.hid hs2
  clear ht2 hs2
  go_wp2
  go_ret2
  exact ⟨rfl, (Touch.of HB1.out).trans HT2.out, HS2.out⟩
end Go.Proofs.YtkhdjjcflbdegaaGreatDoor
end

section
/- Loops over slices.Backward: what is the same for every kind of element. -/
namespace Go.Proofs.YtkhdjjcflbdegaaGreatDoor
open Go.RowKit Go.Extern.Stop Go.Stop Go.Extern

/-- The places that have come when k rounds are over. -/
def dnN (N k : Nat) : List Nat := (List.range k).map fun j => N - 1 - j
theorem dnN_succ (N k : Nat) : dnN N (k + 1) = dnN N k ++ [N - 1 - k] := by unfold dnN; rw [List.range_succ, List.map_append]; rfl
theorem dnN_length (N k : Nat) : (dnN N k).length = k := by simp [dnN]

/-- What a round keeps for the iterator: the box of the slice, and the slice's own cells. -/
def KpB (Bs S : Nat) (W W' : World) : Prop := W'.heap[Bs]? = W.heap[Bs]? ∧ W'.heap[S]? = W.heap[S]?
theorem KpB.refl (Bs S : Nat) (W : World) : KpB Bs S W W := ⟨rfl, rfl⟩
theorem KpB.trans {Bs S : Nat} {A B C : World} (h : KpB Bs S A B) (k : KpB Bs S B C) : KpB Bs S A C := ⟨k.1.trans h.1, k.2.trans h.2⟩
theorem KpB.book {Bs S : Nat} {w : World} (h1 : Bs < w.heap.size) (h2 : S < w.heap.size) (W : World) (l : Nat) (o o' : Obj) (hl : w.heap.size ≤ l) (_ : W.heap[l]? = some o) (_ : o.isCells = false) (_ : o.isWalk = false) : KpB Bs S W (W.putObj l o') :=
  ⟨World.putObj_heap_other (by omega), World.putObj_heap_other (by omega)⟩

theorem good_snoc {n : Nat} {pre : List (Fin n)} {x : Fin n} (h : (pre ++ [x]).map (·.1) = dnN n (pre ++ [x]).length) : pre.map (·.1) = dnN n pre.length ∧ x.1 = n - 1 - pre.length := by
  rw [List.map_append, List.length_append] at h
  have e : dnN n (pre.length + [x].length) = dnN n pre.length ++ [n - 1 - pre.length] := dnN_succ n pre.length
  rw [e] at h
  obtain ⟨h1, h2⟩ := List.append_inj' h rfl
  exact ⟨h1, by simpa using h2⟩
end Go.Proofs.YtkhdjjcflbdegaaGreatDoor
end
