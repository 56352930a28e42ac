/- Package elim: (*System).down. -/
import Derived.Test.YtnkkaggepokjeaaDoorElB
import Derived.Test.YtnkkaggepokjeaaDoorBits
import Derived.Test.YtnkkaggepokjeaaDoorLead
import Derived.Deep.RegionWith
import Derived.Deep.LoopGhost
import Derived.WalkMore
namespace Go.Proofs.YtnkkaggepokjeaaDoor
open Go.RowKit Go.Extern.Stop Go.Stop Go.Extern

/-- What is left of an equation on its way down. -/
structure DownOk (x y r s : List Nat) (n size : Nat) (f : Nat → Option Eqn) : Prop where
  ok : EqOk n size (x, y)
  span : Sp (stL (uF f n) n) (vadd (longV x y n) (longV r s n))

theorem DownOk.add {x y r s : List Nat} {n size c : Nat} {f : Nat → Option Eqn} {q : Eqn} (h : DownOk x y r s n size f) (hc : c < n) (hf : f c = some q) (hq : EqOk n size q) : DownOk (xorW x q.1) (xorW y q.2) r s n size f := by
  obtain ⟨o1, o2, o3, o4, o5⟩ := h.ok
  obtain ⟨q1, q2, q3, q4, q5⟩ := hq
  simp only at o1 o2 o3 o4 o5
  have e1 : x.length = q.1.length := by rw [o1, q1]
  have e2 : y.length = q.2.length := by rw [o4, q4]
  refine ⟨⟨by simp only; rw [xorW_length e1, o1], o2.xor q2, fun d hd => by simp only; rw [bitW_xor e1, o3 d hd, q3 d hd]; rfl, by simp only; rw [xorW_length e2, o4], fun z hz => ?_⟩, ?_⟩
  · obtain ⟨i, hi, rfl⟩ := List.getElem_of_mem hz
    have := xorW_getD e2 i
    rw [List.getD_eq_getElem?_getD, List.getElem?_eq_getElem hi] at this
    simp only [Option.getD_some] at this
    rw [this]
    exact Nat.xor_lt_two_pow (n := 8) (o5.getD i) (q5.getD i)
  · rw [← longV_add e1 e2, vadd_right]
    exact h.span.add (.mem (mem_stL.2 ⟨c, hc, uF_some hf⟩))

/-- An equation of the call's own, and the box it lies in. -/
structure DownS (w0 wr : World) (X g1 c1 g2 c2 K size : Nat) (x y : List Nat) : Prop where
  own1 : wr.ownsRow w0.heap.size 47 1 (.slice (some ⟨g1, 0, none⟩) K c1) K (x.map wordV)
  own2 : wr.ownsRow w0.heap.size 5 1 (.slice (some ⟨g2, 0, none⟩) size c2) size (y.map byteV)
  bel : Below w0.heap.size w0 wr
  box0 : wr.cell? ⟨X, 0, none⟩ = some (.slice (some ⟨g1, 0, none⟩) K c1)
  box1 : wr.cell? ⟨X, 1, none⟩ = some (.slice (some ⟨g2, 0, none⟩) size c2)

theorem own_nonnil {w : World} {B n : Nat} {e : TypeId} {v : Value} {xs : List Value} (h : w.ownsRow B e 1 v n xs) (hp : 0 < n) : ∃ g cap, v = .slice (some ⟨g, 0, none⟩) n cap := by
  obtain ⟨a, cap, rfl, -, ha⟩ := own_open h
  obtain ⟨g, rfl⟩ := ha hp
  exact ⟨g, cap, rfl⟩

set_option maxRecDepth 1000000 in
set_option maxHeartbeats 4000000 in
theorem down_any {w0 w : World} (b kb n size : Nat) (f : Nat → Option Eqn) (rv sv : Nat → Value) (cl : Bool) (g1 c1 g2 c2 : Nat) (r s : List Nat) (hS : SysM w0 b kb n size f rv sv cl) (hT : Tab w0) (hb : Below w0.heap.size w0 w)
    (hr : w.ownsRow w0.heap.size 47 1 (.slice (some ⟨g1, 0, none⟩) (kOf n) c1) (kOf n) (r.map wordV)) (hs : w.ownsRow w0.heap.size 5 1 (.slice (some ⟨g2, 0, none⟩) size c2) size (s.map byteV)) (hok : EqOk n size (r, s)) :
    Calls Tryd.prog 35 #[sysP b, .agg #[.slice (some ⟨g1, 0, none⟩) (kOf n) c1, .slice (some ⟨g2, 0, none⟩) size c2]] w fun e w' => ∃ x y, DownOk x y r s n size f ∧
      w'.ownsRow w0.heap.size 47 1 (.slice (some ⟨g1, 0, none⟩) (kOf n) c1) (kOf n) (x.map wordV) ∧ w'.ownsRow w0.heap.size 5 1 (.slice (some ⟨g2, 0, none⟩) size c2) size (y.map byteV) ∧ Below w0.heap.size w0 w' ∧
      (∀ k, k < w.heap.size → k ≠ g1 → k ≠ g2 → w'.heap[k]? = w.heap[k]?) ∧
      ((e = .returned (.int .i64 (-1)) ∧ bitW x = vzero) ∨ ∃ c : Nat, e = .returned (.int .i64 (c : Int)) ∧ c < n ∧ f c = none ∧ Lead (bitW x) c) := by
  obtain ⟨hn1, hn2, hs1, hs2⟩ := hS.num
  have hK64 : kOf n ≤ 64 := kOf_le hn2
  have hl1 := hr.lt g1 rfl
  have hl2 := hs.lt g2 rfl
  have HK0 : Hid (∃ K, K = kOf n) := Lib.hid ⟨_, rfl⟩
  obtain ⟨K, hKK⟩ := HK0.out
  rw [← hKK] at hr hK64 ⊢
  have HKK := Lib.hid hKK
  have hbz : Below w.heap.size w (w.alloc (.cells #[.slice (some ⟨g1, 0, none⟩) K c1, .slice (some ⟨g2, 0, none⟩) size c2] 82)) := (Below.refl _ _).alloc (Nat.le_refl _) _
  have hz0 : (w.alloc (.cells #[.slice (some ⟨g1, 0, none⟩) K c1, .slice (some ⟨g2, 0, none⟩) size c2] 82)).heap[w.heap.size]? = some (.cells #[.slice (some ⟨g1, 0, none⟩) K c1, .slice (some ⟨g2, 0, none⟩) size c2] 82 (0, 0)) := heap_alloc_new w _
  have HD0 : Hid (DownS w0 (w.alloc (.cells #[.slice (some ⟨g1, 0, none⟩) K c1, .slice (some ⟨g2, 0, none⟩) size c2] 82)) w.heap.size g1 c1 g2 c2 K size r s) := Lib.hid ⟨owns_kept hr hbz, owns_kept hs hbz, hb.trans (hbz.mono hb.size), cell_of_heap hz0 rfl, cell_of_heap hz0 rfl⟩
  have HF0 : Hid (∀ k, k < w.heap.size → k ≠ g1 → k ≠ g2 → (w.alloc (.cells #[.slice (some ⟨g1, 0, none⟩) K c1, .slice (some ⟨g2, 0, none⟩) size c2] 82)).heap[k]? = w.heap[k]?) := Lib.hid fun k hk _ _ => hbz.block k hk
  have HOK0 : Hid (DownOk r s r s n size f) := Lib.hid ⟨hok, by rw [vadd_self]; exact Sp.zero _⟩
  have hX1 : ¬ w.heap.size = g1 := by omega
  have hX2 : ¬ w.heap.size = g2 := by omega
  have hwz : ∃ wz, wz = (w.alloc (.cells #[.slice (some ⟨g1, 0, none⟩) K c1, .slice (some ⟨g2, 0, none⟩) size c2] 82)) := ⟨_, rfl⟩
  obtain ⟨wz, hwz⟩ := hwz
  rw [← hwz] at HD0 HF0
  have HWZ := Lib.hid hwz
  have HSZ : Hid (w.heap.size < wz.heap.size) := Lib.hid (by rw [hwz, World.size_alloc]; omega)
  have HST := Lib.hid hS
  have HT := Lib.hid hT
  clear hbz hz0 hwz hKK hl1 hl2 hr hs hb hok hS hT HK0
  go_enter Tryd.func35, Tryd.ntmps35
  go_wp2_with fail
  rw [← HWZ.out]
  have hbx0 := HD0.out.box0
  go_step3
  go_wp2_with fail
  go_step3
  go_wp2_with fail
  go_loopg [5, 11] K (fun gk lz i wr => ∃ k : Nat, k + gk = K ∧ lz = .int .i64 (-1) ∧ i = .int .i64 k ∧ (∃ x y, DownOk x y r s n size f ∧ (∀ j, j < k → x.getD j 0 = 0) ∧ DownS w0 wr w.heap.size g1 c1 g2 c2 K size x y) ∧ (∀ k, k < w.heap.size → k ≠ g1 → k ≠ g2 → wr.heap[k]? = w.heap[k]?) ∧ w.heap.size < wr.heap.size)
  case atStart => exact ⟨0, by omega, rfl, rfl, ⟨r, s, HOK0.out, fun j hj => by omega, HD0.out⟩, HF0.out, HSZ.out⟩
  case round =>
    clear HOK0 HD0 HF0 HWZ hbx0
    obtain ⟨k, hk, rfl, rfl, ⟨x, y, hx, hxz, hds⟩, hfr, hszr⟩ := hrel
    cases gk with
    | zero =>
      have hkK : k = K := by omega
      have HX := Lib.hid hx
      have HZ : Hid (bitW x = vzero) := Lib.hid (zero_of_words (by rw [show x.length = K from hx.ok.1.trans HKK.out.symm, ← hkK]; exact hxz))
      have HD := Lib.hid hds
      have HF := Lib.hid hfr
      have hlt : ¬ (k : Int) < (K : Int) := by omega
      clear hx hxz hds hfr
      go_wp2_with fail
      try rw [Exit.noGoto_ret]
      go_ret
      exact ⟨x, y, HX.out, HD.out.own1, HD.out.own2, HD.out.bel, HF.out, .inl ⟨rfl, HZ.out⟩⟩
    | succ go =>
      have hlt : k < K := by omega
      have HX := Lib.hid hx
      have HXZ := Lib.hid hxz
      have HD := Lib.hid hds
      have HF := Lib.hid hfr
      clear hx hxz hds hfr
      go_wp2_with fail
      go_loopg [5, 7] 64 (fun gk lz _ wq => lz = .int .i64 (-1) ∧ (∃ x y, DownOk x y r s n size f ∧ (∀ j, j < k → x.getD j 0 = 0) ∧ DownS w0 wq w.heap.size g1 c1 g2 c2 K size x y ∧ 64 - Lib.ctz 64 (x.getD k 0) ≤ gk) ∧ (∀ k, k < w.heap.size → k ≠ g1 → k ≠ g2 → wq.heap[k]? = w.heap[k]?) ∧ w.heap.size < wq.heap.size)
      case atStart => exact ⟨rfl, ⟨x, y, HX.out, HXZ.out, HD.out, by omega⟩, HF.out, hszr⟩
      case round =>
        clear HX HXZ HD HF hszr
        obtain ⟨rfl, ⟨z, y, hz, hzz, hds, hgk⟩, hfr, hszr⟩ := hrel
        have hzl : z.length = K := hz.ok.1.trans HKK.out.symm
        have hzw : Word z := hz.ok.2.1
        have hxc : wr.cell? ⟨g1, k, none⟩ = some (.int .u64 ((z.getD k 0 : Nat) : Int)) := by
          rw [hds.own1.cellAt k (by omega)]
          have : k < z.length := by omega
          simp [this, wordV]
        have hbx0 := hds.box0
        have hbx1 := hds.box1
        have hwlt := hzw.getD k
        have HY := Lib.hid hz
        have HYZ := Lib.hid hzz
        have HD := Lib.hid hds
        have HF := Lib.hid hfr
        have HGK := Lib.hid hgk
        by_cases h0 : z.getD k 0 = 0
        · have HYZ2 : Hid (∀ j, j < k + 1 → z.getD j 0 = 0) := Lib.hid fun j hj => by
            by_cases e : j = k
            · subst e; exact h0
            · exact HYZ.out j (by omega)
          rw [h0] at hxc
          clear hz hzz hds hgk hfr hzl hzw hwlt h0
          go_wp2_with fail
          go_roundg go
          case measure => omega
          case rel => exact ⟨k + 1, by omega, rfl, by go_num, ⟨z, y, HY.out, HYZ2.out, HD.out⟩, HF.out, hszr⟩
        · have hlead := lead_at hzw hzz h0
          have hcn2 : k * 64 + Lib.ctz 64 (z.getD k 0) < n := by
            apply Nat.lt_of_not_le
            intro hle
            have := hz.ok.2.2.1 _ hle
            simp only at this
            rw [hlead.1] at this
            cases this
          have hz64 := (testBit_ctz _ h0 hwlt).1
          have hx0 : (((z.getD k 0 : Nat) : Int) != 0) = true := by simp only [bne_iff_ne, ne_eq]; omega
          have hst := HST.out.mono hds.bel
          obtain ⟨-, -, hb2, -, -⟩ := hst.cells
          obtain ⟨hk0, hk1⟩ := hst.kcell _ hcn2
          have hpl := HST.out.place _ hcn2
          have hci : (k : Int) * 64 + ((Lib.ctz 64 (z.getD k 0) : Nat) : Int) < (n : Int) := by omega
          have HW := Lib.hid hwlt
          have HTW : Hid (Tab wr) := Lib.hid (HT.out.mono hds.bel)
          cases had : f (k * 64 + Lib.ctz 64 (z.getD k 0)) with
          | none =>
            have HEND : Hid (∃ c, c = k * 64 + Lib.ctz 64 (z.getD k 0) ∧ c < n ∧ f c = none ∧ Lead (bitW z) c) := Lib.hid ⟨_, rfl, hcn2, had, hlead⟩
            rw [had] at hpl
            obtain ⟨hr1, hr2⟩ := hpl
            rw [hr1] at hk0
            rw [hr2] at hk1
            have hq : (binOp .eql 38 (.slice none 0 0) (.slice none 0 0)).run Tryd.prog wr = .ok (.bool true) wr := Lib.run_eql_slice_nil wr 38 47 none 0 0 0 0 Tryd.underlying38
            clear hz hzz hds hgk hfr hzl hzw hwlt h0 hlead had hst hr1 hr2
            generalize z.getD k 0 = X at *
            go_wp2_with fail
            refine (Tz64_any X HW.out _ HTW.out).mono ?_
            rintro e w2 ⟨rfl, rfl⟩
            generalize Lib.ctz 64 X = t at *
            go_wp2_with fail
            try rw [Exit.noGoto_ret]
            go_ret
            obtain ⟨c, hc, hc2, hc3, hc4⟩ := HEND.out
            refine ⟨z, y, HY.out, HD.out.own1, HD.out.own2, HD.out.bel, HF.out, .inr ⟨c, ?_, hc2, hc3, hc4⟩⟩
            rw [hc]
            go_num
          | some q =>
            obtain ⟨g3, rfl⟩ : ∃ g3, gk = g3 + 1 := ⟨gk - 1, by omega⟩
            rw [had] at hpl
            obtain ⟨hr1, hr2, hqk, hqlead⟩ := hpl
            have hq1l : q.1.length = K := hqk.1.trans HKK.out.symm
            have hzq : z.length = q.1.length := by rw [hzl, hq1l]
            have HS1 := Lib.hid (step_word hzw hqk.2.1 hzq h0 hqlead)
            have hzs := lead_words hqk.2.1 hqlead.2 (show 64 * k ≤ k * 64 + Lib.ctz 64 (z.getD k 0) by omega)
            have HS2 := Lib.hid (xor_zero_words hzq hzz hzs)
            have HS3 := Lib.hid (hz.add hcn2 had hqk)
            have HLA := Lib.hid (ListAt.of_owns (f := wordV) hr1)
            have HLB := Lib.hid (ListAt.of_owns (f := byteV) hr2)
            obtain ⟨ga, ca, ea⟩ := own_nonnil hr1 (by rw [← HKK.out]; omega)
            obtain ⟨gb, cb, eb⟩ := own_nonnil hr2 (by omega)
            rw [← HKK.out] at ea
            rw [ea] at hk0 HLA
            rw [eb] at hk1 HLB
            have hbd : Below wr.heap.size wr wr.drew := (Below.refl _ _).drew
            have HADD : Hid (Calls Tryd.prog 62 #[.agg #[.slice (some ⟨g1, 0, none⟩) K c1, .slice (some ⟨g2, 0, none⟩) size c2], .agg #[.slice (some ⟨ga, 0, none⟩) K ca, .slice (some ⟨gb, 0, none⟩) size cb]] wr.drew fun e w' => e = .returned (.tuple #[]) ∧
              w'.ownsRow w0.heap.size 47 1 (.slice (some ⟨g1, 0, none⟩) K c1) K ((xorW z q.1).map wordV) ∧ w'.ownsRow w0.heap.size 5 1 (.slice (some ⟨g2, 0, none⟩) size c2) size ((xorW y q.2).map byteV) ∧ Below w0.heap.size w0 w' ∧ (∀ k, k < wr.drew.heap.size → k ≠ g1 → k ≠ g2 → w'.heap[k]? = wr.drew.heap[k]?)) := Lib.hid
              (eqAdd_any g1 c1 g2 c2 K size z y q.1 q.2 _ _ hds.bel.drew (owns_kept hds.own1 hbd) (owns_kept hds.own2 hbd) HLA.out HLB.out hzl hz.ok.2.2.2.1 hq1l hqk.2.2.2.1 hzw hz.ok.2.2.2.2 hqk.2.1 hqk.2.2.2.2 (by omega) (by omega))
            have hq : (binOp .eql 38 (.slice (some ⟨ga, 0, none⟩) K ca) (.slice none 0 0)).run Tryd.prog wr = .ok (.bool false) wr := Lib.run_eql_slice_nil wr 38 47 (some ⟨ga, 0, none⟩) K ca 0 0 Tryd.underlying38
            have HDN : Hid (∀ w3, w3.ownsRow w0.heap.size 47 1 (.slice (some ⟨g1, 0, none⟩) K c1) K ((xorW z q.1).map wordV) → w3.ownsRow w0.heap.size 5 1 (.slice (some ⟨g2, 0, none⟩) size c2) size ((xorW y q.2).map byteV) → Below w0.heap.size w0 w3 → (∀ k, k < wr.drew.heap.size → k ≠ g1 → k ≠ g2 → w3.heap[k]? = wr.drew.heap[k]?) →
              DownS w0 w3 w.heap.size g1 c1 g2 c2 K size (xorW z q.1) (xorW y q.2) ∧ (∀ k, k < w.heap.size → k ≠ g1 → k ≠ g2 → w3.heap[k]? = w.heap[k]?) ∧ w.heap.size < w3.heap.size) := Lib.hid fun w3 k1 k2 k3 k4 => by
              have hXe : w3.heap[w.heap.size]? = wr.heap[w.heap.size]? := k4 _ hszr hX1 hX2
              refine ⟨⟨k1, k2, k3, (World.cell?_of_block (w := wr) (a := ⟨w.heap.size, 0, none⟩) hXe).trans hbx0, (World.cell?_of_block (w := wr) (a := ⟨w.heap.size, 1, none⟩) hXe).trans hbx1⟩, fun k hk n1 n2 => (k4 k (show k < wr.heap.size by omega) n1 n2).trans (HF.out k hk n1 n2), ?_⟩
              have := World.block_lt_of_cell? w3 _ ((World.cell?_of_block (w := wr) (a := ⟨w.heap.size, 0, none⟩) hXe).trans hbx0)
              exact this
            clear hz hzz hds hgk hfr hzl hzw hwlt h0 hlead had hst hr1 hr2 hqk hqlead hq1l hzq hzs ea eb hbd HLA HLB
            generalize xorW z q.1 = z2 at *
            generalize xorW y q.2 = y2 at *
            generalize z.getD k 0 = X at *
            go_wp2_with fail
            refine (Tz64_any X HW.out _ HTW.out).mono ?_
            rintro e w2 ⟨rfl, rfl⟩
            generalize Lib.ctz 64 X = t at *
            go_wp2_with fail
            go_region_with (go_at_call 62; refine HADD.out.mono ?_; rintro e w3 ⟨rfl, k1, k2, k3, k4⟩; obtain ⟨hd3, hf3, hs3⟩ := HDN.out w3 k1 k2 k3 k4; have HD3 := Lib.hid hd3; have HF3 := Lib.hid hf3; clear k1 k2 k3 k4 hd3 hf3)
            all_goals
              go_wp2
              go_roundg g3
              case measure => omega
              case rel => exact ⟨rfl, ⟨z2, y2, HS3.out, HS2.out, HD3.out, by have := HS1.out; have := HGK.out; omega⟩, HF3.out, hs3⟩
end Go.Proofs.YtnkkaggepokjeaaDoor
