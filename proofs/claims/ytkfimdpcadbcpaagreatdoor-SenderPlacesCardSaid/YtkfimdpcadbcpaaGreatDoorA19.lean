import Derived.Deep.RegionWith
import Derived.Deep.LoopGhost
import Derived.WalkMore
import Derived.Test.YtkfimdpcadbcpaaGreatDoorA18
import Derived.Test.YtkfimdpcadbcpaaGreatDoorA11
import Derived.Test.YtkfimdpcadbcpaaGreatDoorA09
import Derived.Test.YtkfimdpcadbcpaaGreatDoorA17
import Derived.Test.YtkfimdpcadbcpaaGreatDoorA01
set_option linter.unusedSimpArgs false
set_option linter.unusedVariables false
set_option maxRecDepth 1000000
set_option maxHeartbeats 8000000
namespace Go.Proofs.YtkfimdpcadbcpaaGreatDoor
section
open Go.RowKit Go.Extern.Stop Go.Stop Go.Extern
structure DownOk (x y r s : List Nat) (n size : Nat) (f : Nat → Option Eqn) : Prop where
  ok : EqOk n size (x, y)
  span : Sp (stL (uF f n) n) (vadd (longV x y n) (longV r s n))
theorem DownOk.add {x y r s : List Nat} {n size c : Nat} {f : Nat → Option Eqn} {q : Eqn} (h : DownOk x y r s n size f) (hc : c < n) (hf : f c = some q) (hq : EqOk n size q) : DownOk (xorW x q.1) (xorW y q.2) r s n size f := by
  obtain ⟨o1, o2, o3, o4, o5⟩ := h.ok
  obtain ⟨q1, q2, q3, q4, q5⟩ := hq
  simp only at o1 o2 o3 o4 o5
  have e1 : x.length = q.1.length := by rw [o1, q1]
  have e2 : y.length = q.2.length := by rw [o4, q4]
  refine ⟨⟨by simp only; rw [zAm e1, o1], o2.xor q2, fun d hd => by simp only; rw [zGJ e1, o3 d hd, q3 d hd]; rfl, by simp only; rw [zAm e2, o4], fun z hz => ?_⟩, ?_⟩
  · obtain ⟨i, hi, rfl⟩ := List.getElem_of_mem hz
    have := zAu e2 i
    rw [List.getD_eq_getElem?_getD, List.getElem?_eq_getElem hi] at this
    simp only [Option.getD_some] at this
    rw [this]
    exact Nat.xor_lt_two_pow (n := 8) (o5.getD i) (q5.getD i)
  · rw [← zIW e1 e2, zBB]
    exact h.span.add (.mem (mem_stL.2 ⟨c, hc, zGt hf⟩))
structure DownS (w0 wr : World) (X g1 c1 g2 c2 K size : Nat) (x y : List Nat) : Prop where
  own1 : wr.ownsRow w0.heap.size 258 1 (.slice (some ⟨g1, 0, none⟩) K c1) K (x.map wordV)
  own2 : wr.ownsRow w0.heap.size 5 1 (.slice (some ⟨g2, 0, none⟩) size c2) size (y.map byteV)
  bel : Below w0.heap.size w0 wr
  box0 : wr.cell? ⟨X, 0, none⟩ = some (.slice (some ⟨g1, 0, none⟩) K c1)
  box1 : wr.cell? ⟨X, 1, none⟩ = some (.slice (some ⟨g2, 0, none⟩) size c2)
theorem zBz {w : World} {B n : Nat} {e : TypeId} {v : Value} {xs : List Value} (h : w.ownsRow B e 1 v n xs) (hp : 0 < n) : ∃ g cap, v = .slice (some ⟨g, 0, none⟩) n cap := by
  obtain ⟨a, cap, rfl, -, ha⟩ := zAe h
  obtain ⟨g, rfl⟩ := ha hp
  exact ⟨g, cap, rfl⟩
theorem zKN {w0 w : World} (b kb n size : Nat) (f : Nat → Option Eqn) (rv sv : Nat → Value) (cl : Bool) (g1 c1 g2 c2 : Nat) (r s : List Nat) (hS : SysM w0 b kb n size f rv sv cl) (hT : Tab w0) (hb : Below w0.heap.size w0 w)
    (hr : w.ownsRow w0.heap.size 258 1 (.slice (some ⟨g1, 0, none⟩) (kOf n) c1) (kOf n) (r.map wordV)) (hs : w.ownsRow w0.heap.size 5 1 (.slice (some ⟨g2, 0, none⟩) size c2) size (s.map byteV)) (hok : EqOk n size (r, s)) :
    Calls Tryz.prog 184 #[sysP b, .agg #[.slice (some ⟨g1, 0, none⟩) (kOf n) c1, .slice (some ⟨g2, 0, none⟩) size c2]] w fun e w' => ∃ x y, DownOk x y r s n size f ∧
      w'.ownsRow w0.heap.size 258 1 (.slice (some ⟨g1, 0, none⟩) (kOf n) c1) (kOf n) (x.map wordV) ∧ w'.ownsRow w0.heap.size 5 1 (.slice (some ⟨g2, 0, none⟩) size c2) size (y.map byteV) ∧ Below w0.heap.size w0 w' ∧
      (∀ k, k < w.heap.size → k ≠ g1 → k ≠ g2 → w'.heap[k]? = w.heap[k]?) ∧
      ((e = .returned (.int .i64 (-1)) ∧ bitW x = vzero) ∨ ∃ c : Nat, e = .returned (.int .i64 (c : Int)) ∧ c < n ∧ f c = none ∧ Lead (bitW x) c) := by
  obtain ⟨hn1, hn2, hs1, hs2⟩ := hS.num
  have hK64 : kOf n ≤ 64 := zEI hn2
  have hl1 := hr.lt g1 rfl
  have hl2 := hs.lt g2 rfl
  have HK0 : Hid (∃ K, K = kOf n) := lhd ⟨_, rfl⟩
  obtain ⟨K, hKK⟩ := HK0.out
  rw [← hKK] at hr hK64 ⊢
  have HKK := lhd hKK
  have hbz : Below w.heap.size w (w.alloc (.cells #[.slice (some ⟨g1, 0, none⟩) K c1, .slice (some ⟨g2, 0, none⟩) size c2] 244)) := (Below.refl _ _).alloc (Nat.le_refl _) _
  have hz0 : (w.alloc (.cells #[.slice (some ⟨g1, 0, none⟩) K c1, .slice (some ⟨g2, 0, none⟩) size c2] 244)).heap[w.heap.size]? = some (.cells #[.slice (some ⟨g1, 0, none⟩) K c1, .slice (some ⟨g2, 0, none⟩) size c2] 244 (0, 0)) := heap_alloc_new w _
  have HD0 : Hid (DownS w0 (w.alloc (.cells #[.slice (some ⟨g1, 0, none⟩) K c1, .slice (some ⟨g2, 0, none⟩) size c2] 244)) w.heap.size g1 c1 g2 c2 K size r s) := lhd ⟨zAh hr hbz, zAh hs hbz, hb.trans (hbz.mono hb.size), zAa hz0 rfl, zAa hz0 rfl⟩
  have HF0 : Hid (∀ k, k < w.heap.size → k ≠ g1 → k ≠ g2 → (w.alloc (.cells #[.slice (some ⟨g1, 0, none⟩) K c1, .slice (some ⟨g2, 0, none⟩) size c2] 244)).heap[k]? = w.heap[k]?) := lhd fun k hk _ _ => hbz.block k hk
  have HOK0 : Hid (DownOk r s r s n size f) := lhd ⟨hok, by rw [zB1]; exact Sp.zero _⟩
  have hX1 : ¬ w.heap.size = g1 := by omega
  have hX2 : ¬ w.heap.size = g2 := by omega
  have hwz : ∃ wz, wz = (w.alloc (.cells #[.slice (some ⟨g1, 0, none⟩) K c1, .slice (some ⟨g2, 0, none⟩) size c2] 244)) := ⟨_, rfl⟩
  obtain ⟨wz, hwz⟩ := hwz
  rw [← hwz] at HD0 HF0
  have HWZ := lhd hwz
  have HSZ : Hid (w.heap.size < wz.heap.size) := lhd (by rw [hwz, World.size_alloc]; omega)
  have HST := lhd hS
  have HT := lhd hT
  clear hbz hz0 hwz hKK hl1 hl2 hr hs hb hok hS hT HK0
  go_enter Tryz.func184, Tryz.ntmps184
  go_wp2_with fail
  rw [← HWZ.out]
  have hbx0 := HD0.out.box0
  go_step3
  go_wp2_with fail
  go_step3
  go_wp2_with fail
  go_loopg [5, 11] K (fun gk lz i wr => ∃ k : Nat, k + gk = K ∧ lz = .int .i64 (-1) ∧ i = .int .i64 k ∧ (∃ x y, DownOk x y r s n size f ∧ (∀ j, j < k → x.getD j 0 = 0) ∧ DownS w0 wr w.heap.size g1 c1 g2 c2 K size x y) ∧ (∀ k, k < w.heap.size → k ≠ g1 → k ≠ g2 → wr.heap[k]? = w.heap[k]?) ∧ w.heap.size < wr.heap.size)
  case atStart => exact ⟨0, by omega, rfl, rfl, ⟨r, s, HOK0.out, fun j hj => by omega, HD0.out⟩, HF0.out, HSZ.out⟩
  case round =>
    clear HOK0 HD0 HF0 HWZ hbx0
    obtain ⟨k, hk, rfl, rfl, ⟨x, y, hx, hxz, hds⟩, hfr, hszr⟩ := hrel
    cases gk with
    | zero =>
      have hkK : k = K := by omega
      have HX := lhd hx
      have HZ : Hid (bitW x = vzero) := lhd (zD8 (by rw [show x.length = K from hx.ok.1.trans HKK.out.symm, ← hkK]; exact hxz))
      have HD := lhd hds
      have HF := lhd hfr
      have hlt : ¬ (k : Int) < (K : Int) := by omega
      clear hx hxz hds hfr
      go_wp2_with fail
      try rw [Exit.noGoto_ret]
      go_ret
      exact ⟨x, y, HX.out, HD.out.own1, HD.out.own2, HD.out.bel, HF.out, .inl ⟨rfl, HZ.out⟩⟩
    | succ go =>
      have hlt : k < K := by omega
      have HX := lhd hx
      have HXZ := lhd hxz
      have HD := lhd hds
      have HF := lhd hfr
      clear hx hxz hds hfr
      go_wp2_with fail
      go_loopg [5, 7] 64 (fun gk lz _ wq => lz = .int .i64 (-1) ∧ (∃ x y, DownOk x y r s n size f ∧ (∀ j, j < k → x.getD j 0 = 0) ∧ DownS w0 wq w.heap.size g1 c1 g2 c2 K size x y ∧ 64 - Lib.ctz 64 (x.getD k 0) ≤ gk) ∧ (∀ k, k < w.heap.size → k ≠ g1 → k ≠ g2 → wq.heap[k]? = w.heap[k]?) ∧ w.heap.size < wq.heap.size)
      case atStart => exact ⟨rfl, ⟨x, y, HX.out, HXZ.out, HD.out, by omega⟩, HF.out, hszr⟩
      case round =>
        clear HX HXZ HD HF hszr
        obtain ⟨rfl, ⟨z, y, hz, hzz, hds, hgk⟩, hfr, hszr⟩ := hrel
        have hzl : z.length = K := hz.ok.1.trans HKK.out.symm
        have hzw : Word z := hz.ok.2.1
        have hxc : wr.cell? ⟨g1, k, none⟩ = some (.int .u64 ((z.getD k 0 : Nat) : Int)) := by
          rw [hds.own1.cellAt k (by omega)]
          have : k < z.length := by omega
          simp [this, wordV]
        have hbx0 := hds.box0
        have hbx1 := hds.box1
        have hwlt := hzw.getD k
        have HY := lhd hz
        have HYZ := lhd hzz
        have HD := lhd hds
        have HF := lhd hfr
        have HGK := lhd hgk
        by_cases h0 : z.getD k 0 = 0
        · have HYZ2 : Hid (∀ j, j < k + 1 → z.getD j 0 = 0) := lhd fun j hj => by
            by_cases e : j = k
            · subst e; exact h0
            · exact HYZ.out j (by omega)
          rw [h0] at hxc
          clear hz hzz hds hgk hfr hzl hzw hwlt h0
          go_wp2_with fail
          go_roundg go
          case measure => omega
          case rel => exact ⟨k + 1, by omega, rfl, by go_num, ⟨z, y, HY.out, HYZ2.out, HD.out⟩, HF.out, hszr⟩
        · have hlead := zMY hzw hzz h0
          have hcn2 : k * 64 + Lib.ctz 64 (z.getD k 0) < n := by
            apply Nat.lt_of_not_le
            intro hle
            have := hz.ok.2.2.1 _ hle
            simp only at this
            rw [hlead.1] at this
            cases this
          have hz64 := (zBj _ h0 hwlt).1
          have hx0 : (((z.getD k 0 : Nat) : Int) != 0) = true := by simp only [bne_iff_ne, ne_eq]; omega
          have hst := HST.out.mono hds.bel
          obtain ⟨-, -, hb2, -, -⟩ := hst.cells
          obtain ⟨hk0, hk1⟩ := hst.kcell _ hcn2
          have hpl := HST.out.place _ hcn2
          have hci : (k : Int) * 64 + ((Lib.ctz 64 (z.getD k 0) : Nat) : Int) < (n : Int) := by omega
          have HW := lhd hwlt
          have HTW : Hid (Tab wr) := lhd (HT.out.mono hds.bel)
          cases had : f (k * 64 + Lib.ctz 64 (z.getD k 0)) with
          | none =>
            have HEND : Hid (∃ c, c = k * 64 + Lib.ctz 64 (z.getD k 0) ∧ c < n ∧ f c = none ∧ Lead (bitW z) c) := lhd ⟨_, rfl, hcn2, had, hlead⟩
            rw [had] at hpl
            obtain ⟨hr1, hr2⟩ := hpl
            rw [hr1] at hk0
            rw [hr2] at hk1
            have hq : (binOp .eql 217 (.slice none 0 0) (.slice none 0 0)).run Tryz.prog wr = .ok (.bool true) wr := Lib.run_eql_slice_nil wr 217 258 none 0 0 0 0 Tryz.underlying217
            clear hz hzz hds hgk hfr hzl hzw hwlt h0 hlead had hst hr1 hr2
            generalize z.getD k 0 = X at *
            go_wp2_with fail
            refine (zGT X HW.out _ HTW.out).mono ?_
            rintro e w2 ⟨rfl, rfl⟩
            generalize Lib.ctz 64 X = t at *
            go_wp2_with fail
            try rw [Exit.noGoto_ret]
            go_ret
            obtain ⟨c, hc, hc2, hc3, hc4⟩ := HEND.out
            refine ⟨z, y, HY.out, HD.out.own1, HD.out.own2, HD.out.bel, HF.out, .inr ⟨c, ?_, hc2, hc3, hc4⟩⟩
            rw [hc]
            go_num
          | some q =>
            obtain ⟨g3, rfl⟩ : ∃ g3, gk = g3 + 1 := ⟨gk - 1, by omega⟩
            rw [had] at hpl
            obtain ⟨hr1, hr2, hqk, hqlead⟩ := hpl
            have hq1l : q.1.length = K := hqk.1.trans HKK.out.symm
            have hzq : z.length = q.1.length := by rw [hzl, hq1l]
            have HS1 := lhd (zIO hzw hqk.2.1 hzq h0 hqlead)
            have hzs := zHP hqk.2.1 hqlead.2 (show 64 * k ≤ k * 64 + Lib.ctz 64 (z.getD k 0) by omega)
            have HS2 := lhd (zDy hzq hzz hzs)
            have HS3 := lhd (hz.add hcn2 had hqk)
            have HLA := lhd (ListAt.of_owns (f := wordV) hr1)
            have HLB := lhd (ListAt.of_owns (f := byteV) hr2)
            obtain ⟨ga, ca, ea⟩ := zBz hr1 (by rw [← HKK.out]; omega)
            obtain ⟨gb, cb, eb⟩ := zBz hr2 (by omega)
            rw [← HKK.out] at ea
            rw [ea] at hk0 HLA
            rw [eb] at hk1 HLB
            have hbd : Below wr.heap.size wr wr.drew := (Below.refl _ _).drew
            have HADD : Hid (Calls Tryz.prog 213 #[.agg #[.slice (some ⟨g1, 0, none⟩) K c1, .slice (some ⟨g2, 0, none⟩) size c2], .agg #[.slice (some ⟨ga, 0, none⟩) K ca, .slice (some ⟨gb, 0, none⟩) size cb]] wr.drew fun e w' => e = .returned (.tuple #[]) ∧
              w'.ownsRow w0.heap.size 258 1 (.slice (some ⟨g1, 0, none⟩) K c1) K ((xorW z q.1).map wordV) ∧ w'.ownsRow w0.heap.size 5 1 (.slice (some ⟨g2, 0, none⟩) size c2) size ((xorW y q.2).map byteV) ∧ Below w0.heap.size w0 w' ∧ (∀ k, k < wr.drew.heap.size → k ≠ g1 → k ≠ g2 → w'.heap[k]? = wr.drew.heap[k]?)) := lhd
              (zJ7 g1 c1 g2 c2 K size z y q.1 q.2 _ _ hds.bel.drew (zAh hds.own1 hbd) (zAh hds.own2 hbd) HLA.out HLB.out hzl hz.ok.2.2.2.1 hq1l hqk.2.2.2.1 hzw hz.ok.2.2.2.2 hqk.2.1 hqk.2.2.2.2 (by omega) (by omega))
            have hq : (binOp .eql 217 (.slice (some ⟨ga, 0, none⟩) K ca) (.slice none 0 0)).run Tryz.prog wr = .ok (.bool false) wr := Lib.run_eql_slice_nil wr 217 258 (some ⟨ga, 0, none⟩) K ca 0 0 Tryz.underlying217
            have HDN : Hid (∀ w3, w3.ownsRow w0.heap.size 258 1 (.slice (some ⟨g1, 0, none⟩) K c1) K ((xorW z q.1).map wordV) → w3.ownsRow w0.heap.size 5 1 (.slice (some ⟨g2, 0, none⟩) size c2) size ((xorW y q.2).map byteV) → Below w0.heap.size w0 w3 → (∀ k, k < wr.drew.heap.size → k ≠ g1 → k ≠ g2 → w3.heap[k]? = wr.drew.heap[k]?) →
              DownS w0 w3 w.heap.size g1 c1 g2 c2 K size (xorW z q.1) (xorW y q.2) ∧ (∀ k, k < w.heap.size → k ≠ g1 → k ≠ g2 → w3.heap[k]? = w.heap[k]?) ∧ w.heap.size < w3.heap.size) := lhd fun w3 k1 k2 k3 k4 => by
              have hXe : w3.heap[w.heap.size]? = wr.heap[w.heap.size]? := k4 _ hszr hX1 hX2
              refine ⟨⟨k1, k2, k3, (World.cell?_of_block (w := wr) (a := ⟨w.heap.size, 0, none⟩) hXe).trans hbx0, (World.cell?_of_block (w := wr) (a := ⟨w.heap.size, 1, none⟩) hXe).trans hbx1⟩, fun k hk n1 n2 => (k4 k (show k < wr.heap.size by omega) n1 n2).trans (HF.out k hk n1 n2), ?_⟩
              have := World.block_lt_of_cell? w3 _ ((World.cell?_of_block (w := wr) (a := ⟨w.heap.size, 0, none⟩) hXe).trans hbx0)
              exact this
            clear hz hzz hds hgk hfr hzl hzw hwlt h0 hlead had hst hr1 hr2 hqk hqlead hq1l hzq hzs ea eb hbd HLA HLB
            generalize xorW z q.1 = z2 at *
            generalize xorW y q.2 = y2 at *
            generalize z.getD k 0 = X at *
            go_wp2_with fail
            refine (zGT X HW.out _ HTW.out).mono ?_
            rintro e w2 ⟨rfl, rfl⟩
            generalize Lib.ctz 64 X = t at *
            go_wp2_with fail
            go_region_with (go_at_call 213; refine HADD.out.mono ?_; rintro e w3 ⟨rfl, k1, k2, k3, k4⟩; obtain ⟨hd3, hf3, hs3⟩ := HDN.out w3 k1 k2 k3 k4; have HD3 := lhd hd3; have HF3 := lhd hf3; clear k1 k2 k3 k4 hd3 hf3)
            all_goals
              go_wp2
              go_roundg g3
              case measure => omega
              case rel => exact ⟨rfl, ⟨z2, y2, HS3.out, HS2.out, HD3.out, by have := HS1.out; have := HGK.out; omega⟩, HF3.out, hs3⟩
end

section
open Go.RowKit Go.Extern.Stop Go.Stop Go.Extern
section
variable {w : World} {b kb n size : Nat} {f : Nat → Option Eqn} {rv sv : Nat → Value}
theorem zAw {b b' j j' : Nat} (h : b ≠ b' ∨ j ≠ j') : (⟨b, j, none⟩ : Addr) ≠ ⟨b', j', none⟩ := fun e => by
  injection e with e1 e2
  rcases h with h | h
  · exact h e1
  · exact h e2
def updV (rv : Nat → Value) (c : Nat) (v : Value) : Nat → Value := fun d => if d = c then v else rv d
theorem SysM.put (h : SysM w b kb n size f rv sv false) {c : Nat} {q : Eqn} {r1 s1 : Value} (hc : c < n) (hf : f c = none) (h1 : OwnRow wordV 258 w r1 (kOf n) q.1) (h2 : OwnRow byteV 5 w s1 size q.2) (hq : EqOk n size q) (hl : Lead (bitW q.1) c) :
    SysM (((w.setCell ⟨kb, c * 2, none⟩ r1).setCell ⟨kb, c * 2 + 1, none⟩ s1).setCell ⟨b, 3, none⟩ (.int .i64 ((cntF f n : Int) + 1))) b kb n size (putF f c q) (updV rv c r1) (updV sv c s1) false := by
  have hne := h.ne
  obtain ⟨cur, hk⟩ := h.kobj
  have k1 := zAc (j := c * 2) (u := r1) hk
  have k2 := zAc (j := c * 2 + 1) (u := s1) k1
  have k3 := (Below.heap_setCell ((w.setCell ⟨kb, c * 2, none⟩ r1).setCell ⟨kb, c * 2 + 1, none⟩ s1) ⟨b, 3, none⟩ (.int .i64 ((cntF f n : Int) + 1)) kb (fun e => hne e.symm)).trans k2
  have o1 := (Below.heap_setCell w ⟨kb, c * 2, none⟩ r1 b hne).trans h.obj
  have o2 := (Below.heap_setCell (w.setCell ⟨kb, c * 2, none⟩ r1) ⟨kb, c * 2 + 1, none⟩ s1 b hne).trans o1
  have o3 := zAc (j := 3) (u := .int .i64 ((cntF f n : Int) + 1)) o2
  have tr : ∀ (e : TypeId) (v : Value) (k : Nat) (xs : List Value), e = 258 ∨ e = 5 → w.ownsRow 0 e 1 v k xs → (((w.setCell ⟨kb, c * 2, none⟩ r1).setCell ⟨kb, c * 2 + 1, none⟩ s1).setCell ⟨b, 3, none⟩ (.int .i64 ((cntF f n : Int) + 1))).ownsRow 0 e 1 v k xs := fun e v k xs he ho =>
    zAJ (zAJ (zAJ ho hk (by rcases he with rfl | rfl <;> decide) _ _) k1 (by rcases he with rfl | rfl <;> decide) _ _) o2 (by rcases he with rfl | rfl <;> decide) _ _
  refine ⟨?_, ⟨_, k3⟩, fun d hd => ?_, fun d hd => ?_, h.num⟩
  · rw [zEt hf hc]
    exact o3
  · obtain ⟨g1, g2⟩ := h.kcell d hd
    obtain ⟨e1, e2⟩ := h.kcell c hc
    rw [World.cell?_setCell_other (h := zAw (.inl hne)), World.cell?_setCell_other (h := zAw (.inl hne))]
    unfold updV
    by_cases e : d = c
    · subst e
      rw [if_pos rfl, if_pos rfl]
      exact ⟨by rw [World.cell?_setCell_other (h := zAw (.inr (by omega)))]; exact World.cell?_setCell_same _ _ _ e1, World.cell?_setCell_same _ _ _ (by rw [World.cell?_setCell_other (h := zAw (.inr (by omega)))]; exact e2)⟩
    · rw [if_neg e, if_neg e]
      refine ⟨?_, ?_⟩ <;> rw [World.cell?_setCell_other (h := zAw (.inr (by omega))), World.cell?_setCell_other (h := zAw (.inr (by omega)))]
      · exact g1
      · exact g2
  · unfold updV putF
    by_cases e : d = c
    · subst e
      rw [if_pos rfl, if_pos rfl, if_pos rfl]
      exact ⟨tr _ _ _ _ (.inl rfl) h1, tr _ _ _ _ (.inr rfl) h2, hq, hl⟩
    · rw [if_neg e, if_neg e, if_neg e]
      have hp := h.place d hd
      cases hfd : f d with
      | none => rw [hfd] at hp; exact hp
      | some p =>
        rw [hfd] at hp
        exact ⟨tr _ _ _ _ (.inl rfl) hp.1, tr _ _ _ _ (.inr rfl) hp.2.1, hp.2.2⟩
theorem SysM.clash (h : SysM w b kb n size f rv sv false) : SysM (w.setCell ⟨b, 4, none⟩ (.bool true)) b kb n size f rv sv true := by
  have hne := h.ne
  obtain ⟨cur, hk⟩ := h.kobj
  have k3 := (Below.heap_setCell w ⟨b, 4, none⟩ (.bool true) kb (fun e => hne e.symm)).trans hk
  have o3 := zAc (j := 4) (u := .bool true) h.obj
  refine ⟨o3, ⟨_, k3⟩, fun d hd => ?_, fun d hd => ?_, h.num⟩
  · obtain ⟨g1, g2⟩ := h.kcell d hd
    rw [World.cell?_setCell_other (h := zAw (.inl hne)), World.cell?_setCell_other (h := zAw (.inl hne))]
    exact ⟨g1, g2⟩
  · have hp := h.place d hd
    cases hfd : f d with
    | none => rw [hfd] at hp; exact hp
    | some p =>
      rw [hfd] at hp
      exact ⟨zAJ hp.1 h.obj (by decide) _ _, zAJ hp.2.1 h.obj (by decide) _ _, hp.2.2⟩
end
end

section
open Go.RowKit Go.Extern.Stop Go.Stop Go.Extern
def ElAddPost (w w' : World) (b kb n size : Nat) (f : Nat → Option Eqn) (l : Vec) (k : Nat) : Prop :=
  Touch b kb w w' ∧ k = kindV n (stL (uF f n) n) l ∧ ∃ f' rv' sv', SysM w' b kb n size f' rv' sv' (decide (k = 3)) ∧ (k = 1 → SpEq (stL (uF f' n) n) (stL (uF f n) n ++ [l]) ∧ cntF f' n = cntF f n + 1) ∧ (k ≠ 1 → f' = f)
theorem zIo {w : World} (b kb n size : Nat) (f : Nat → Option Eqn) (rv sv : Nat → Value) (v1 v2 : Value) (row sym : List Nat) (hS : SysM w b kb n size f rv sv false) (hT : Tab w)
    (h1 : ListAt wordV w v1 row) (h2 : ListAt byteV w v2 sym) (hok : EqOk n size (row, sym)) :
    Calls Tryz.prog 153 #[sysP b, v1, v2] w fun e w' => ∃ k : Nat, e = .returned (.tuple #[.int .i64 (k : Int), .nilIface]) ∧ ElAddPost w w' b kb n size f (longV row sym n) k := by
  obtain ⟨hn1, hn2, hs1, hs2⟩ := hS.num
  have hK64 : kOf n ≤ 64 := zEI hn2
  have hKp : 0 < kOf n := by unfold kOf; omega
  obtain ⟨hc0, hc1, hc2, hc3, hc4⟩ := hS.cells
  have hne := hS.ne
  have HS := lhd hS
  have HT := lhd hT
  have HOK := lhd hok
  have HR := lhd h1
  have HSY := lhd h2
  have HWB : Hid (wholeB n row = true) := lhd (zNi.2 ⟨hok.1, hok.2.2.1⟩)
  have hsl : sym.length = size := hok.2.2.2.1
  have HSL := lhd hsl
  have HRL : Hid (row.length = kOf n) := lhd hok.1
  have HC4 := lhd hc4
  have HCN := lhd (zIv f n)
  obtain ⟨a1, cp1, rfl, -, -, -⟩ := h1
  obtain ⟨a2, cp2, rfl, -, -, -⟩ := h2
  have hq : ((sym.length : Int) != (size : Int)) = false := by simp; omega
  have hq2 : ((sym.length : Int) == (size : Int)) = true := by simp; omega
  clear hS hT hok hsl
  go_enter Tryz.func153, Tryz.ntmps153
  go_wp2_with fail
  refine (zEC b false HC4.out).mono ?_
  rintro e w1 ⟨rfl, rfl⟩
  go_wp2_with fail
  refine (zGh _ row n HR.out HOK.out.2.1 hn2).mono ?_
  rintro e w1 ⟨rfl, rfl⟩
  rw [HWB.out]
  go_wp2_with fail
  refine (zDr _ _ row sym HR.out HSY.out (by rw [HRL.out]; omega) (by rw [HSL.out]; omega)).mono ?_
  rintro e w1 ⟨p1, p2, rfl, ho1, ho2, -, -, hb1⟩
  rw [HRL.out] at ho1
  rw [HSL.out] at ho2
  have HO1 := lhd ho1
  have HO2 := lhd ho2
  have HB1 := lhd hb1
  obtain ⟨g1, cg1, rfl⟩ := zBz ho1 hKp
  obtain ⟨g2, cg2, rfl⟩ := zBz ho2 (by omega)
  clear ho1 ho2 hb1
  go_wp2_with fail
  obtain ⟨wz, hwz⟩ : ∃ wz, wz = w1.alloc (.cells #[.slice (some ⟨g1, 0, none⟩) (kOf n) cg1, .slice (some ⟨g2, 0, none⟩) size cg2] 244) := ⟨_, rfl⟩
  rw [← hwz]
  have hbz : Below w1.heap.size w1 wz := by rw [hwz]; exact (Below.refl _ _).alloc (Nat.le_refl _) _
  have hzz : wz.heap[w1.heap.size]? = some (.cells #[.slice (some ⟨g1, 0, none⟩) (kOf n) cg1, .slice (some ⟨g2, 0, none⟩) size cg2] 244 (0, 0)) := by rw [hwz]; exact heap_alloc_new w1 _
  have hzs : w1.heap.size < wz.heap.size := (Array.getElem?_eq_some_iff.1 hzz).1
  have HZZ := lhd hzz
  have hg1 := (HO1.out.lt g1 rfl).2
  have hg2 := (HO2.out.lt g2 rfl).2
  refine (zKN (w0 := w) (w := wz) b kb n size f rv sv false g1 cg1 g2 cg2 row sym HS.out HT.out (HB1.out.trans (hbz.mono HB1.out.size)) (zAh HO1.out hbz) (zAh HO2.out hbz) HOK.out).mono ?_
  rintro e w4 ⟨x, y, hd, hp1, hp2, hb4, hfr, hres⟩
  have hX := hfr w1.heap.size hzs (by omega) (by omega)
  have hX0 : w4.cell? ⟨w1.heap.size, 0, none⟩ = some (.slice (some ⟨g1, 0, none⟩) (kOf n) cg1) := zAa (hX.trans HZZ.out) rfl
  have hX1 : w4.cell? ⟨w1.heap.size, 1, none⟩ = some (.slice (some ⟨g2, 0, none⟩) size cg2) := zAa (hX.trans HZZ.out) rfl
  have HS4 := lhd (HS.out.mono hb4)
  have HD := lhd hd
  have HP1 := lhd hp1
  have HP2 := lhd hp2
  have HB4 := lhd hb4
  have HST := lhd HS.out.stair
  clear hwz hbz hzz hfr hX hp1 hp2 hb4 hd hg1 hg2 hzs HZZ HOK
  rcases hres with ⟨rfl, hz⟩ | ⟨c, rfl, hcn, hfc, hld⟩
  · cases hzb : zeroB y with
    | true =>
      have HZB := lhd hzb
      have HZ := lhd hz
      clear hzb hz
      go_wp2_with fail
      refine (zGA _ y (ListAt.of_owns HP2.out)).mono ?_
      rintro e w5 ⟨rfl, rfl⟩
      rw [HZB.out]
      go_wp2
      go_ret2
      have hy0 : ∀ j, y.getD j 0 = 0 := fun j => by
        by_cases hj : j < y.length
        · have := List.all_eq_true.1 HZB.out _ (List.getElem_mem hj)
          rw [List.getD_eq_getElem?_getD, List.getElem?_eq_getElem hj]
          simpa using this
        · simp [List.getD_eq_getElem?_getD, Nat.not_lt.1 hj]
      have hsp := HD.out.span
      rw [zH5 HZ.out hy0, zAA, zA9] at hsp
      exact ⟨2, rfl, Touch.of HB4.out, (zFW hsp).symm, f, rv, sv, HS4.out, fun h => absurd h (by decide), fun _ => rfl⟩
    | false =>
      have HZB := lhd hzb
      have HZ := lhd hz
      have hf4 := zAb (j := 4) HS4.out.obj
      have hc4' := HS4.out.cells.2.2.2.2
      clear hzb hz
      go_wp2_with fail
      refine (zGA _ y (ListAt.of_owns HP2.out)).mono ?_
      rintro e w5 ⟨rfl, rfl⟩
      rw [HZB.out]
      go_wp2
      go_ret2
      have hy0 : ∃ j, y.getD j 0 ≠ 0 := by
        apply Classical.byContradiction
        intro hno
        have : zeroB y = true := by
          unfold zeroB
          rw [List.all_eq_true]
          intro z hz
          obtain ⟨j, hj, rfl⟩ := List.getElem_of_mem hz
          have h1 : ¬ y.getD j 0 ≠ 0 := fun h => hno ⟨j, h⟩
          rw [List.getD_eq_getElem?_getD, List.getElem?_eq_getElem hj] at h1
          simpa using h1
        rw [this] at HZB
        exact Bool.noConfusion HZB.out
      obtain ⟨j, hj⟩ := hy0
      have hk3 : kindV n (stL (uF f n) n) (longV row sym n) = 3 := zGd HST.out HD.out.span (fun c hc => by rw [zAP hc, HZ.out]; rfl) (zKq HD.out.ok.2.2.2.2 hj)
      exact ⟨3, rfl, (Touch.of HB4.out).setCell (p := ⟨b, 4, none⟩) (.inl rfl) _, hk3.symm, f, rv, sv, HS4.out.clash, fun h => absurd h (by decide), fun _ => rfl⟩
  · obtain ⟨hc0, hc1, hc2, hc3, hc4⟩ := HS4.out.cells
    obtain ⟨hk0, hk1⟩ := HS4.out.kcell c hcn
    obtain ⟨cur, hkob⟩ := HS4.out.kobj
    have hf0 := zAb (j := c * 2) hkob
    have hf1 := zAb (j := c * 2 + 1) hkob
    have hf3 := zAb (j := 3) HS4.out.obj
    have HFC := lhd hfc
    have HLD := lhd hld
    have hcI : (c : Int) < (n : Int) := by omega
    have hcI0 : (0 : Int) ≤ (c : Int) := by omega
    have hcnt := HCN.out
    clear hkob hfc hld
    generalize hcq : cntF f n = cq at *
    have hwr : IntKind.i64.wrap ((cq : Int) + 1) = (cq : Int) + 1 := IntWalk.i64_in _ (by omega)
    go_wp2_with fail
    go_region
    go_wp2
    go_ret2
    have hk1 : kindV n (stL (uF f n) n) (longV row sym n) = 1 := zFG HST.out HD.out.span hcn (zEz HFC.out) (zDD hcn HLD.out)
    have hput := HS4.out.put (q := (x, y)) hcn HFC.out (zAd HP1.out (Nat.zero_le _)) (zAd HP2.out (Nat.zero_le _)) HD.out.ok HLD.out
    rw [hcq] at hput
    refine ⟨1, rfl, ?_, hk1.symm, putF f c (x, y), updV rv c (.slice (some ⟨g1, 0, none⟩) (kOf n) cg1), updV sv c (.slice (some ⟨g2, 0, none⟩) size cg2), ?_, fun _ => ⟨?_, ?_⟩, fun h => absurd rfl h⟩
    · exact (((Touch.of HB4.out).setCell (p := ⟨kb, c * 2, none⟩) (.inr rfl) _).setCell (p := ⟨kb, c * 2 + 1, none⟩) (.inr rfl) _).drew.setCell (p := ⟨b, 3, none⟩) (.inl rfl) _
    · exact hput.mono (Below.refl _ _).drew
    · rw [zNI]
      exact zHL HD.out.span hcn (zEz HFC.out)
    · rw [zEt HFC.out hcn, hcq]
end

section
open Go.RowKit Go.Extern.Stop Go.Stop Go.Extern
theorem zG7 : (Tryz.prog.info? 244).map (fun i => (i.zero, i.size, i.bytes)) = some (some (.agg #[.slice none 0 0, .slice none 0 0]), 2, 48) := by kernel_rfl
theorem zFu (z : Value) (m j : Nat) (h : j < m) : (madeCells #[z, z] m).toList[j]? = some z := by
  unfold madeCells
  simp [h]
  rcases Nat.mod_two_eq_zero_or_one j with e | e <;> rw [e] <;> rfl
theorem zKf {w : World} (n size : Nat) (hn1 : 1 ≤ n) (hn2 : n ≤ 4096) (hs1 : 1 ≤ size) (hs2 : size ≤ 64) :
    Calls Tryz.prog 151 #[.int .i64 (n : Int), .int .i64 (size : Int)] w fun e w' => ∃ b kb, e = .returned (.tuple #[sysP b, .nilIface]) ∧ SysM w' b kb n size (fun _ => none) (fun _ => nilS) (fun _ => nilS) false ∧
      w.heap.size ≤ b ∧ w.heap.size ≤ kb ∧ Below w.heap.size w w' := by
  obtain ⟨i0, hi, hz0, hz1, hz2⟩ := info_parts zG7
  have h1 : (1 : Int) ≤ (n : Int) := by omega
  have h2 : (n : Int) ≤ 4096 := by omega
  have h3 : (1 : Int) ≤ (size : Int) := by omega
  have h4 : (size : Int) ≤ 64 := by omega
  go_enter Tryz.func151, Tryz.ntmps151
  go_wp2_with (at_make; refine wpList_make_full _ rfl _ _ 240 rfl w.heap.size 244 i0 (.agg #[.slice none 0 0, .slice none 0 0]) 2 Tryz.underlying240 hi hz0 hz1 .i64 .i64 _ _ n rfl rfl rfl rfl (by rw [hz2]; omega) (by unfold maxLen; omega) (Nat.le_refl _) ?_; intro w0 hown0 hgrow0; have hb0 := lhd ((Below.refl w.heap.size w).grown hgrow0 (Nat.le_refl _) (fun k hk => by cases hk)); have ho0 := lhd hown0; clear hown0 hgrow0)
  go_ret2
  have hk : ∃ cur, w0.heap[w.heap.size]? = some (.cells cur 244 (0, 0)) := by
    rcases ho0.out.2 with ⟨e1, _⟩ | ⟨g, cap, cur, e1, _, h3, _⟩
    · cases e1
    · have : w.heap.size = g := by simpa [Value.ownBlock] using congrArg Value.ownBlock e1
      rw [this]; exact ⟨cur, h3⟩
  obtain ⟨cur, hk⟩ := hk
  have hklt : w.heap.size < w0.heap.size := (Array.getElem?_eq_some_iff.1 hk).1
  have hk' := (Below.heap_alloc w0 (.cells (sysCells n size w.heap.size 0 false) 242) _ hklt).trans hk
  refine ⟨w0.heap.size, w.heap.size, rfl, ⟨?_, ⟨cur, hk'⟩, fun c hc => ?_, fun c hc => ⟨rfl, rfl⟩, hn1, hn2, hs1, hs2⟩, by omega, Nat.le_refl _, hb0.out.alloc (by omega) _⟩
  · rw [zFy]
    exact heap_alloc_new w0 _
  · have hx : ∀ j, j < n * 2 → w0.cell? ⟨w.heap.size, j, none⟩ = some nilS := fun j hj => by
      rw [ho0.out.cellAt j hj]
      exact zFu _ _ _ hj
    have hbd : Below w0.heap.size w0 (w0.alloc (.cells (sysCells n size w.heap.size 0 false) 242)) := (Below.refl _ _).alloc (Nat.le_refl _) _
    exact ⟨(hbd.cell (p := ⟨w.heap.size, c * 2, none⟩) hklt).trans (hx _ (by omega)), (hbd.cell (p := ⟨w.heap.size, c * 2 + 1, none⟩) hklt).trans (hx _ (by omega))⟩
end

section
open Go.RowKit Go.Extern.Stop Go.Stop Go.Extern
theorem zEb {P : Program} {fn : Func} {p q : Tmp} {ty uy : TypeId} (h : fn.results = #[.cell p ty, .cell q uy]) (tmps : Array Value) (w : World) (a b : Addr) (v x : Value) (hp : tmps.getD p undef = .pointer (some a)) (hq : tmps.getD q undef = .pointer (some b))
    (h1 : (isAgg ty).run P w = .ok false w) (h2 : (isAgg uy).run P w = .ok false w) (hv : w.cell? a = some v) (hx : w.cell? b = some x) : (results fn tmps).run P w = .ok (.tuple #[v, x]) w := by
  have hp' : tmps[p]?.getD undef = .pointer (some a) := by simpa using hp
  have hq' : tmps[q]?.getD undef = .pointer (some b) := by simpa using hq
  simp [results, h, hp', hq', asAddr, loadVar, h1, h2, hv, hx]
theorem zLP {w : World} : (isAgg 96).run Tryz.prog w = .ok false w := by simp [isAgg, run_underlying Tryz.underlying96]
theorem zJW {w : World} : (isAgg 26).run Tryz.prog w = .ok false w := by simp [isAgg, run_underlying Tryz.underlying26]
structure AllBox (w w0 : World) (p : Value) : Prop where
  bel : Below w.heap.size w w0
  lt : w.heap.size + 1 + 1 < w0.heap.size
  h0 : w0.heap[w.heap.size]? = some (.cells #[p] 207 (0, 0))
  h1 : w0.heap[w.heap.size + 1]? = some (.cells #[nilS] 96 (0, 0))
  h2 : w0.heap[w.heap.size + 1 + 1]? = some (.cells #[.nilIface] 26 (0, 0))
theorem zLB (w : World) (p : Value) : ∃ w0, w0 = ((w.alloc (.cells #[p] 207)).alloc (.cells #[nilS] 96)).alloc (.cells #[.nilIface] 26) ∧ AllBox w w0 p := by
  have z1 : (w.alloc (.cells #[p] 207)).heap.size = w.heap.size + 1 := World.size_alloc _ _
  have z2 : ((w.alloc (.cells #[p] 207)).alloc (.cells #[nilS] 96)).heap.size = w.heap.size + 1 + 1 := by rw [World.size_alloc, z1]
  have a1 : (w.alloc (.cells #[p] 207)).heap[w.heap.size]? = some (.cells #[p] 207 (0, 0)) := heap_alloc_new w _
  have a2 := heap_alloc_new (w.alloc (.cells #[p] 207)) (.cells #[nilS] 96)
  rw [z1] at a2
  have a3 := heap_alloc_new ((w.alloc (.cells #[p] 207)).alloc (.cells #[nilS] 96)) (.cells #[.nilIface] 26)
  rw [z2] at a3
  refine ⟨_, rfl, (((Below.refl _ _).alloc (Nat.le_refl _) _).alloc (by omega) _).alloc (by omega) _, by rw [World.size_alloc, z2]; omega, ?_, ?_, a3⟩
  · rw [Below.heap_alloc _ _ _ (by omega), Below.heap_alloc _ _ _ (by omega)]; exact a1
  · rw [Below.heap_alloc _ _ _ (by omega)]; exact a2
theorem AllBox.mono {w w0 w1 : World} {p : Value} (h : AllBox w w0 p) (hb : Below w0.heap.size w0 w1) : AllBox w w1 p := by
  have hl := h.lt
  exact ⟨h.bel.trans (hb.mono (by omega)), Nat.lt_of_lt_of_le hl hb.size, (hb.block _ (by omega)).trans h.h0, (hb.block _ (by omega)).trans h.h1, (hb.block _ hl).trans h.h2⟩
theorem AllBox.done {w w0 : World} {p v e : Value} (h : AllBox w w0 p) : ((w0.setCell ⟨w.heap.size + 1, 0, none⟩ v).setCell ⟨w.heap.size + 1 + 1, 0, none⟩ e).cell? ⟨w.heap.size + 1, 0, none⟩ = some v ∧
    ((w0.setCell ⟨w.heap.size + 1, 0, none⟩ v).setCell ⟨w.heap.size + 1 + 1, 0, none⟩ e).cell? ⟨w.heap.size + 1 + 1, 0, none⟩ = some e ∧ Below w.heap.size w ((w0.setCell ⟨w.heap.size + 1, 0, none⟩ v).setCell ⟨w.heap.size + 1 + 1, 0, none⟩ e) := by
  refine ⟨?_, ?_, (h.bel.setCell (p := ⟨w.heap.size + 1, 0, none⟩) (show w.heap.size ≤ w.heap.size + 1 by omega) _).setCell (p := ⟨w.heap.size + 1 + 1, 0, none⟩) (show w.heap.size ≤ w.heap.size + 1 + 1 by omega) _⟩
  · rw [World.cell?_setCell_other (h := zAw (.inl (by omega)))]
    exact World.cell?_setCell_same _ _ _ (zAa h.h1 rfl)
  · refine World.cell?_setCell_same _ _ _ (u := .nilIface) ?_
    rw [World.cell?_setCell_other (h := zAw (.inl (by omega)))]
    exact zAa h.h2 rfl
end

section
open Go.RowKit Go.Extern.Stop Go.Stop Go.Extern
section
variable {w w' : World} {b n size r kb : Nat} {K : List Vec} {cl : Bool}
theorem Sys.cons (h : Sys w b n size K r cl kb) : Cons n K := by
  obtain ⟨f, rv, sv, h1, h2, h3⟩ := h
  exact (zDK h1.stair).congr h2
theorem Sys.own {e : TypeId} {v : Value} {k base : Nat} {xs : List Value} (h : Sys w b n size K r cl kb) (ht : Touch b kb w w') (he : e ≠ 242 ∧ e ≠ 244) (ho : w.ownsRow base e 1 v k xs) : w'.ownsRow base e 1 v k xs := by
  obtain ⟨f, rv, sv, h1, h2, h3⟩ := h
  exact ht.own h1 he ho
end
theorem zLd (n : Nat) : SpEq (stL (uF (fun _ => none) n) n) [] := .of
  (fun s hs => by
    obtain ⟨c, _, rfl⟩ := mem_stL.1 hs
    rw [zEz rfl]
    exact Sp.zero _) (fun s hs => by cases hs)
theorem zNB {w : World} (n size : Nat) (hn1 : 1 ≤ n) (hn2 : n ≤ 4096) (hs1 : 1 ≤ size) (hs2 : size ≤ 64) :
    Calls Tryz.prog 151 #[.int .i64 (n : Int), .int .i64 (size : Int)] w fun e w' => ∃ b kb, e = .returned (.tuple #[sysP b, .nilIface]) ∧ Sys w' b n size [] 0 false kb ∧
      w.heap.size ≤ b ∧ w.heap.size ≤ kb ∧ Below w.heap.size w w' := by
  refine (zKf n size hn1 hn2 hs1 hs2).mono ?_
  rintro e w' ⟨b, kb, rfl, h1, h2, h3, h4⟩
  exact ⟨b, kb, rfl, ⟨_, _, _, h1, zLd n, zFy n⟩, h2, h3, h4⟩
theorem zJS {n : Nat} {K : List Vec} {l : Vec} (h : kindV n K l = 2) : Sp K l := by
  unfold kindV at h
  split at h
  · split at h
    · assumption
    · cases h
  · cases h
noncomputable def addV (n : Nat) (K : List Vec) (l : Vec) : List Vec := if kindV n K l = 3 then K else K ++ [l]
noncomputable def addR (n : Nat) (K : List Vec) (l : Vec) (r : Nat) : Nat := r + if kindV n K l = 1 then 1 else 0
theorem zMf {w : World} (b n size : Nat) (K : List Vec) (r kb : Nat) (v1 v2 : Value) (row sym : List Nat) (hS : Sys w b n size K r false kb) (hT : Tab w) (h1 : ListAt wordV w v1 row) (h2 : ListAt byteV w v2 sym) (hok : EqOk n size (row, sym)) :
    Calls Tryz.prog 153 #[sysP b, v1, v2] w fun e w' => e = .returned (.tuple #[.int .i64 (kindV n K (longV row sym n) : Nat), .nilIface]) ∧ Touch b kb w w' ∧
      Sys w' b n size (addV n K (longV row sym n)) (addR n K (longV row sym n) r) (decide (kindV n K (longV row sym n) = 3)) kb := by
  obtain ⟨f, rv, sv, k1, k2, rfl⟩ := hS
  refine (zIo b kb n size f rv sv v1 v2 row sym k1 hT h1 h2 hok).mono ?_
  rintro e w' ⟨k, rfl, ht, hk, f', rv', sv', m1, m2, m3⟩
  rw [zGf k2] at hk
  refine ⟨by rw [hk], ht, f', rv', sv', by rw [← hk]; exact m1, ?_, ?_⟩
  · unfold addV
    rw [← hk]
    by_cases e3 : k = 3
    · rw [if_pos e3, m3 (by omega)]; exact k2
    · rw [if_neg e3]
      by_cases e1 : k = 1
      · exact (m2 e1).1.trans (k2.snoc _)
      · rw [m3 e1]
        refine k2.trans ?_
        have : k = 2 := by
          have h : kindV n K (longV row sym n) = 1 ∨ kindV n K (longV row sym n) = 2 ∨ kindV n K (longV row sym n) = 3 := by
            unfold kindV; split
            · split
              · exact .inr (.inl rfl)
              · exact .inr (.inr rfl)
            · exact .inl rfl
          omega
        exact (SpEq.snoc_in (zJS (hk.symm.trans this))).symm
  · unfold addR
    rw [← hk]
    by_cases e1 : k = 1
    · rw [if_pos e1, (m2 e1).2]
    · rw [if_neg e1, m3 e1]; rfl
end
end Go.Proofs.YtkfimdpcadbcpaaGreatDoor
