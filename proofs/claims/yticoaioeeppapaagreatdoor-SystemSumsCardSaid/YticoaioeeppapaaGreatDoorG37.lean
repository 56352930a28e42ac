import Derived.Test.YticoaioeeppapaaGreatDoorG36
import Derived.Test.YticoaioeeppapaaGreatDoorG26
import Derived.Test.YticoaioeeppapaaGreatDoorG29
import Derived.Deep.RegionWith
import Derived.Deep.LoopGhost
import Derived.WalkMore
import Derived.Test.YticoaioeeppapaaGreatDoorG33

section
/- Package elim: (*System).down. -/
namespace Go.Proofs.YticoaioeeppapaaGreatDoor
open Go.RowKit Go.Extern.Stop Go.Stop Go.Extern

/-- What is left of an equation on its way down. -/
structure DownOk (x y r s : List Nat) (n size : Nat) (f : Nat → Option Eqn) : Prop where
  ok : EqOk n size (x, y)
  span : Sp (stL (uF f n) n) (vadd (longV x y n) (longV r s n))

theorem DownOk.add {x y r s : List Nat} {n size c : Nat} {f : Nat → Option Eqn} {q : Eqn} (h : DownOk x y r s n size f) (hc : c < n) (hf : f c = some q) (hq : EqOk n size q) : DownOk (xorW x q.1) (xorW y q.2) r s n size f := by
  obtain ⟨o1, o2, o3, o4, o5⟩ := h.ok
  obtain ⟨q1, q2, q3, q4, q5⟩ := hq
  simp only at o1 o2 o3 o4 o5
  have e1 : x.length = q.1.length := by rw [o1, q1]
  have e2 : y.length = q.2.length := by rw [o4, q4]
  refine ⟨⟨by simp only; rw [xorW_length e1, o1], o2.xor q2, fun d hd => by simp only; rw [bitW_xor e1, o3 d hd, q3 d hd]; rfl, by simp only; rw [xorW_length e2, o4], fun z hz => ?_⟩, ?_⟩
  · obtain ⟨i, hi, rfl⟩ := List.getElem_of_mem hz
    have := xorW_getD e2 i
    rw [List.getD_eq_getElem?_getD, List.getElem?_eq_getElem hi] at this
    simp only [Option.getD_some] at this
    rw [this]
    exact Nat.xor_lt_two_pow (n := 8) (o5.getD i) (q5.getD i)
  · rw [← longV_add e1 e2, vadd_right]
    exact h.span.add (.mem (mem_stL.2 ⟨c, hc, uF_some hf⟩))

/-- An equation of the call's own, and the box it lies in. -/
structure DownS (w0 wr : World) (X g1 c1 g2 c2 K size : Nat) (x y : List Nat) : Prop where
  own1 : wr.ownsRow w0.heap.size 120 1 (.slice (some ⟨g1, 0, none⟩) K c1) K (x.map wordV)
  own2 : wr.ownsRow w0.heap.size 5 1 (.slice (some ⟨g2, 0, none⟩) size c2) size (y.map byteV)
  bel : Below w0.heap.size w0 wr
  box0 : wr.cell? ⟨X, 0, none⟩ = some (.slice (some ⟨g1, 0, none⟩) K c1)
  box1 : wr.cell? ⟨X, 1, none⟩ = some (.slice (some ⟨g2, 0, none⟩) size c2)

theorem own_nonnil {w : World} {B n : Nat} {e : TypeId} {v : Value} {xs : List Value} (h : w.ownsRow B e 1 v n xs) (hp : 0 < n) : ∃ g cap, v = .slice (some ⟨g, 0, none⟩) n cap := by
  obtain ⟨a, cap, rfl, -, ha⟩ := own_open h
  obtain ⟨g, rfl⟩ := ha hp
  exact ⟨g, cap, rfl⟩

set_option maxRecDepth 1000000 in
set_option maxHeartbeats 4000000 in
theorem down_any {w0 w : World} (b kb n size : Nat) (f : Nat → Option Eqn) (rv sv : Nat → Value) (cl : Bool) (g1 c1 g2 c2 : Nat) (r s : List Nat) (hS : SysM w0 b kb n size f rv sv cl) (hT : Tab w0) (hb : Below w0.heap.size w0 w)
    (hr : w.ownsRow w0.heap.size 120 1 (.slice (some ⟨g1, 0, none⟩) (kOf n) c1) (kOf n) (r.map wordV)) (hs : w.ownsRow w0.heap.size 5 1 (.slice (some ⟨g2, 0, none⟩) size c2) size (s.map byteV)) (hok : EqOk n size (r, s)) :
    Calls Tryz.prog 106 #[sysP b, .agg #[.slice (some ⟨g1, 0, none⟩) (kOf n) c1, .slice (some ⟨g2, 0, none⟩) size c2]] w fun e w' => ∃ x y, DownOk x y r s n size f ∧
      w'.ownsRow w0.heap.size 120 1 (.slice (some ⟨g1, 0, none⟩) (kOf n) c1) (kOf n) (x.map wordV) ∧ w'.ownsRow w0.heap.size 5 1 (.slice (some ⟨g2, 0, none⟩) size c2) size (y.map byteV) ∧ Below w0.heap.size w0 w' ∧
      (∀ k, k < w.heap.size → k ≠ g1 → k ≠ g2 → w'.heap[k]? = w.heap[k]?) ∧
      ((e = .returned (.int .i64 (-1)) ∧ bitW x = vzero) ∨ ∃ c : Nat, e = .returned (.int .i64 (c : Int)) ∧ c < n ∧ f c = none ∧ Lead (bitW x) c) := by
  obtain ⟨hn1, hn2, hs1, hs2⟩ := hS.num
  have hK64 : kOf n ≤ 64 := kOf_le hn2
  have hl1 := hr.lt g1 rfl
  have hl2 := hs.lt g2 rfl
  have HK0 : Hid (∃ K, K = kOf n) := Lib.hid ⟨_, rfl⟩
  obtain ⟨K, hKK⟩ := HK0.out
  rw [← hKK] at hr hK64 ⊢
  have HKK := Lib.hid hKK
  have hbz : Below w.heap.size w (w.alloc (.cells #[.slice (some ⟨g1, 0, none⟩) K c1, .slice (some ⟨g2, 0, none⟩) size c2] 132)) := (Below.refl _ _).alloc (Nat.le_refl _) _
  have hz0 : (w.alloc (.cells #[.slice (some ⟨g1, 0, none⟩) K c1, .slice (some ⟨g2, 0, none⟩) size c2] 132)).heap[w.heap.size]? = some (.cells #[.slice (some ⟨g1, 0, none⟩) K c1, .slice (some ⟨g2, 0, none⟩) size c2] 132 (0, 0)) := heap_alloc_new w _
  have HD0 : Hid (DownS w0 (w.alloc (.cells #[.slice (some ⟨g1, 0, none⟩) K c1, .slice (some ⟨g2, 0, none⟩) size c2] 132)) w.heap.size g1 c1 g2 c2 K size r s) := Lib.hid ⟨owns_kept hr hbz, owns_kept hs hbz, hb.trans (hbz.mono hb.size), cell_of_heap hz0 rfl, cell_of_heap hz0 rfl⟩
  have HF0 : Hid (∀ k, k < w.heap.size → k ≠ g1 → k ≠ g2 → (w.alloc (.cells #[.slice (some ⟨g1, 0, none⟩) K c1, .slice (some ⟨g2, 0, none⟩) size c2] 132)).heap[k]? = w.heap[k]?) := Lib.hid fun k hk _ _ => hbz.block k hk
  have HOK0 : Hid (DownOk r s r s n size f) := Lib.hid ⟨hok, by rw [vadd_self]; exact Sp.zero _⟩
  have hX1 : ¬ w.heap.size = g1 := by omega
  have hX2 : ¬ w.heap.size = g2 := by omega
  have hwz : ∃ wz, wz = (w.alloc (.cells #[.slice (some ⟨g1, 0, none⟩) K c1, .slice (some ⟨g2, 0, none⟩) size c2] 132)) := ⟨_, rfl⟩
  obtain ⟨wz, hwz⟩ := hwz
  rw [← hwz] at HD0 HF0
  have HWZ := Lib.hid hwz
  have HSZ : Hid (w.heap.size < wz.heap.size) := Lib.hid (by rw [hwz, World.size_alloc]; omega)
  have HST := Lib.hid hS
  have HT := Lib.hid hT
  clear hbz hz0 hwz hKK hl1 hl2 hr hs hb hok hS hT HK0
  go_enter Tryz.func106, Tryz.ntmps106
  go_wp2_with fail
  rw [← HWZ.out]
  have hbx0 := HD0.out.box0
  go_step3
  go_wp2_with fail
  go_step3
  go_wp2_with fail
  go_loopg [5, 11] K (fun gk lz i wr => ∃ k : Nat, k + gk = K ∧ lz = .int .i64 (-1) ∧ i = .int .i64 k ∧ (∃ x y, DownOk x y r s n size f ∧ (∀ j, j < k → x.getD j 0 = 0) ∧ DownS w0 wr w.heap.size g1 c1 g2 c2 K size x y) ∧ (∀ k, k < w.heap.size → k ≠ g1 → k ≠ g2 → wr.heap[k]? = w.heap[k]?) ∧ w.heap.size < wr.heap.size)
  case atStart => exact ⟨0, by omega, rfl, rfl, ⟨r, s, HOK0.out, fun j hj => by omega, HD0.out⟩, HF0.out, HSZ.out⟩
  case round =>
    clear HOK0 HD0 HF0 HWZ hbx0
    obtain ⟨k, hk, rfl, rfl, ⟨x, y, hx, hxz, hds⟩, hfr, hszr⟩ := hrel
    cases gk with
    | zero =>
      have hkK : k = K := by omega
      have HX := Lib.hid hx
      have HZ : Hid (bitW x = vzero) := Lib.hid (zero_of_words (by rw [show x.length = K from hx.ok.1.trans HKK.out.symm, ← hkK]; exact hxz))
      have HD := Lib.hid hds
      have HF := Lib.hid hfr
      have hlt : ¬ (k : Int) < (K : Int) := by omega
      clear hx hxz hds hfr
      go_wp2_with fail
      try rw [Exit.noGoto_ret]
      go_ret
      exact ⟨x, y, HX.out, HD.out.own1, HD.out.own2, HD.out.bel, HF.out, .inl ⟨rfl, HZ.out⟩⟩
    | succ go =>
      have hlt : k < K := by omega
      have HX := Lib.hid hx
      have HXZ := Lib.hid hxz
      have HD := Lib.hid hds
      have HF := Lib.hid hfr
      clear hx hxz hds hfr
      go_wp2_with fail
      go_loopg [5, 7] 64 (fun gk lz _ wq => lz = .int .i64 (-1) ∧ (∃ x y, DownOk x y r s n size f ∧ (∀ j, j < k → x.getD j 0 = 0) ∧ DownS w0 wq w.heap.size g1 c1 g2 c2 K size x y ∧ 64 - Lib.ctz 64 (x.getD k 0) ≤ gk) ∧ (∀ k, k < w.heap.size → k ≠ g1 → k ≠ g2 → wq.heap[k]? = w.heap[k]?) ∧ w.heap.size < wq.heap.size)
      case atStart => exact ⟨rfl, ⟨x, y, HX.out, HXZ.out, HD.out, by omega⟩, HF.out, hszr⟩
      case round =>
        clear HX HXZ HD HF hszr
        obtain ⟨rfl, ⟨z, y, hz, hzz, hds, hgk⟩, hfr, hszr⟩ := hrel
        have hzl : z.length = K := hz.ok.1.trans HKK.out.symm
        have hzw : Word z := hz.ok.2.1
        have hxc : wr.cell? ⟨g1, k, none⟩ = some (.int .u64 ((z.getD k 0 : Nat) : Int)) := by
          rw [hds.own1.cellAt k (by omega)]
          have : k < z.length := by omega
          simp [this, wordV]
        have hbx0 := hds.box0
        have hbx1 := hds.box1
        have hwlt := hzw.getD k
        have HY := Lib.hid hz
        have HYZ := Lib.hid hzz
        have HD := Lib.hid hds
        have HF := Lib.hid hfr
        have HGK := Lib.hid hgk
        by_cases h0 : z.getD k 0 = 0
        · have HYZ2 : Hid (∀ j, j < k + 1 → z.getD j 0 = 0) := Lib.hid fun j hj => by
            by_cases e : j = k
            · subst e; exact h0
            · exact HYZ.out j (by omega)
          rw [h0] at hxc
          clear hz hzz hds hgk hfr hzl hzw hwlt h0
          go_wp2_with fail
          go_roundg go
          case measure => omega
          case rel => exact ⟨k + 1, by omega, rfl, by go_num, ⟨z, y, HY.out, HYZ2.out, HD.out⟩, HF.out, hszr⟩
        · have hlead := lead_at hzw hzz h0
          have hcn2 : k * 64 + Lib.ctz 64 (z.getD k 0) < n := by
            apply Nat.lt_of_not_le
            intro hle
            have := hz.ok.2.2.1 _ hle
            simp only at this
            rw [hlead.1] at this
            cases this
          have hz64 := (testBit_ctz _ h0 hwlt).1
          have hx0 : (((z.getD k 0 : Nat) : Int) != 0) = true := by simp only [bne_iff_ne, ne_eq]; omega
          have hst := HST.out.mono hds.bel
          obtain ⟨-, -, hb2, -, -⟩ := hst.cells
          obtain ⟨hk0, hk1⟩ := hst.kcell _ hcn2
          have hpl := HST.out.place _ hcn2
          have hci : (k : Int) * 64 + ((Lib.ctz 64 (z.getD k 0) : Nat) : Int) < (n : Int) := by omega
          have HW := Lib.hid hwlt
          have HTW : Hid (Tab wr) := Lib.hid (HT.out.mono hds.bel)
          cases had : f (k * 64 + Lib.ctz 64 (z.getD k 0)) with
          | none =>
            have HEND : Hid (∃ c, c = k * 64 + Lib.ctz 64 (z.getD k 0) ∧ c < n ∧ f c = none ∧ Lead (bitW z) c) := Lib.hid ⟨_, rfl, hcn2, had, hlead⟩
            rw [had] at hpl
            obtain ⟨hr1, hr2⟩ := hpl
            rw [hr1] at hk0
            rw [hr2] at hk1
            have hq : (binOp .eql 62 (.slice none 0 0) (.slice none 0 0)).run Tryz.prog wr = .ok (.bool true) wr := Lib.run_eql_slice_nil wr 62 120 none 0 0 0 0 Tryz.underlying62
            clear hz hzz hds hgk hfr hzl hzw hwlt h0 hlead had hst hr1 hr2
            generalize z.getD k 0 = X at *
            go_wp2_with fail
            refine (Tz64_any X HW.out _ HTW.out).mono ?_
            rintro e w2 ⟨rfl, rfl⟩
            generalize Lib.ctz 64 X = t at *
            go_wp2_with fail
            try rw [Exit.noGoto_ret]
            go_ret
            obtain ⟨c, hc, hc2, hc3, hc4⟩ := HEND.out
            refine ⟨z, y, HY.out, HD.out.own1, HD.out.own2, HD.out.bel, HF.out, .inr ⟨c, ?_, hc2, hc3, hc4⟩⟩
            rw [hc]
            go_num
          | some q =>
            obtain ⟨g3, rfl⟩ : ∃ g3, gk = g3 + 1 := ⟨gk - 1, by omega⟩
            rw [had] at hpl
            obtain ⟨hr1, hr2, hqk, hqlead⟩ := hpl
            have hq1l : q.1.length = K := hqk.1.trans HKK.out.symm
            have hzq : z.length = q.1.length := by rw [hzl, hq1l]
            have HS1 := Lib.hid (step_word hzw hqk.2.1 hzq h0 hqlead)
            have hzs := lead_words hqk.2.1 hqlead.2 (show 64 * k ≤ k * 64 + Lib.ctz 64 (z.getD k 0) by omega)
            have HS2 := Lib.hid (xor_zero_words hzq hzz hzs)
            have HS3 := Lib.hid (hz.add hcn2 had hqk)
            have HLA := Lib.hid (ListAt.of_owns (f := wordV) hr1)
            have HLB := Lib.hid (ListAt.of_owns (f := byteV) hr2)
            obtain ⟨ga, ca, ea⟩ := own_nonnil hr1 (by rw [← HKK.out]; omega)
            obtain ⟨gb, cb, eb⟩ := own_nonnil hr2 (by omega)
            rw [← HKK.out] at ea
            rw [ea] at hk0 HLA
            rw [eb] at hk1 HLB
            have hbd : Below wr.heap.size wr wr.drew := (Below.refl _ _).drew
            have HADD : Hid (Calls Tryz.prog 129 #[.agg #[.slice (some ⟨g1, 0, none⟩) K c1, .slice (some ⟨g2, 0, none⟩) size c2], .agg #[.slice (some ⟨ga, 0, none⟩) K ca, .slice (some ⟨gb, 0, none⟩) size cb]] wr.drew fun e w' => e = .returned (.tuple #[]) ∧
              w'.ownsRow w0.heap.size 120 1 (.slice (some ⟨g1, 0, none⟩) K c1) K ((xorW z q.1).map wordV) ∧ w'.ownsRow w0.heap.size 5 1 (.slice (some ⟨g2, 0, none⟩) size c2) size ((xorW y q.2).map byteV) ∧ Below w0.heap.size w0 w' ∧ (∀ k, k < wr.drew.heap.size → k ≠ g1 → k ≠ g2 → w'.heap[k]? = wr.drew.heap[k]?)) := Lib.hid
              (eqAdd_any g1 c1 g2 c2 K size z y q.1 q.2 _ _ hds.bel.drew (owns_kept hds.own1 hbd) (owns_kept hds.own2 hbd) HLA.out HLB.out hzl hz.ok.2.2.2.1 hq1l hqk.2.2.2.1 hzw hz.ok.2.2.2.2 hqk.2.1 hqk.2.2.2.2 (by omega) (by omega))
            have hq : (binOp .eql 62 (.slice (some ⟨ga, 0, none⟩) K ca) (.slice none 0 0)).run Tryz.prog wr = .ok (.bool false) wr := Lib.run_eql_slice_nil wr 62 120 (some ⟨ga, 0, none⟩) K ca 0 0 Tryz.underlying62
            have HDN : Hid (∀ w3, w3.ownsRow w0.heap.size 120 1 (.slice (some ⟨g1, 0, none⟩) K c1) K ((xorW z q.1).map wordV) → w3.ownsRow w0.heap.size 5 1 (.slice (some ⟨g2, 0, none⟩) size c2) size ((xorW y q.2).map byteV) → Below w0.heap.size w0 w3 → (∀ k, k < wr.drew.heap.size → k ≠ g1 → k ≠ g2 → w3.heap[k]? = wr.drew.heap[k]?) →
              DownS w0 w3 w.heap.size g1 c1 g2 c2 K size (xorW z q.1) (xorW y q.2) ∧ (∀ k, k < w.heap.size → k ≠ g1 → k ≠ g2 → w3.heap[k]? = w.heap[k]?) ∧ w.heap.size < w3.heap.size) := Lib.hid fun w3 k1 k2 k3 k4 => by
              have hXe : w3.heap[w.heap.size]? = wr.heap[w.heap.size]? := k4 _ hszr hX1 hX2
              refine ⟨⟨k1, k2, k3, (World.cell?_of_block (w := wr) (a := ⟨w.heap.size, 0, none⟩) hXe).trans hbx0, (World.cell?_of_block (w := wr) (a := ⟨w.heap.size, 1, none⟩) hXe).trans hbx1⟩, fun k hk n1 n2 => (k4 k (show k < wr.heap.size by omega) n1 n2).trans (HF.out k hk n1 n2), ?_⟩
              have := World.block_lt_of_cell? w3 _ ((World.cell?_of_block (w := wr) (a := ⟨w.heap.size, 0, none⟩) hXe).trans hbx0)
              exact this
            clear hz hzz hds hgk hfr hzl hzw hwlt h0 hlead had hst hr1 hr2 hqk hqlead hq1l hzq hzs ea eb hbd HLA HLB
            generalize xorW z q.1 = z2 at *
            generalize xorW y q.2 = y2 at *
            generalize z.getD k 0 = X at *
            go_wp2_with fail
            refine (Tz64_any X HW.out _ HTW.out).mono ?_
            rintro e w2 ⟨rfl, rfl⟩
            generalize Lib.ctz 64 X = t at *
            go_wp2_with fail
            go_region_with (go_at_call 129; refine HADD.out.mono ?_; rintro e w3 ⟨rfl, k1, k2, k3, k4⟩; obtain ⟨hd3, hf3, hs3⟩ := HDN.out w3 k1 k2 k3 k4; have HD3 := Lib.hid hd3; have HF3 := Lib.hid hf3; clear k1 k2 k3 k4 hd3 hf3)
            all_goals
              go_wp2
              go_roundg g3
              case measure => omega
              case rel => exact ⟨rfl, ⟨z2, y2, HS3.out, HS2.out, HD3.out, by have := HS1.out; have := HGK.out; omega⟩, HF3.out, hs3⟩
end Go.Proofs.YticoaioeeppapaaGreatDoor
end

section
/- Package elim: (*System).Add. -/
namespace Go.Proofs.YticoaioeeppapaaGreatDoor
open Go.RowKit Go.Extern.Stop Go.Stop Go.Extern

def nameElAdd : ByteArray := ⟨#[101, 108, 105, 109, 46, 65, 100, 100]⟩

section
variable {w : World} {b kb n size : Nat} {f : Nat → Option Eqn} {rv sv : Nat → Value}

theorem addr_ne {b b' j j' : Nat} (h : b ≠ b' ∨ j ≠ j') : (⟨b, j, none⟩ : Addr) ≠ ⟨b', j', none⟩ := fun e => by
  injection e with e1 e2
  rcases h with h | h
  · exact h e1
  · exact h e2

def updV (rv : Nat → Value) (c : Nat) (v : Value) : Nat → Value := fun d => if d = c then v else rv d

/-- One more is kept. -/
theorem SysM.put (h : SysM w b kb n size f rv sv false) {c : Nat} {q : Eqn} {r1 s1 : Value} (hc : c < n) (hf : f c = none) (h1 : OwnRow wordV 120 w r1 (kOf n) q.1) (h2 : OwnRow byteV 5 w s1 size q.2) (hq : EqOk n size q) (hl : Lead (bitW q.1) c) :
    SysM (((w.setCell ⟨kb, c * 2, none⟩ r1).setCell ⟨kb, c * 2 + 1, none⟩ s1).setCell ⟨b, 3, none⟩ (.int .i64 ((cntF f n : Int) + 1))) b kb n size (putF f c q) (updV rv c r1) (updV sv c s1) false := by
  have hne := h.ne
  obtain ⟨cur, hk⟩ := h.kobj
  have k1 := heap_setCell_at (j := c * 2) (u := r1) hk
  have k2 := heap_setCell_at (j := c * 2 + 1) (u := s1) k1
  have k3 := (Below.heap_setCell ((w.setCell ⟨kb, c * 2, none⟩ r1).setCell ⟨kb, c * 2 + 1, none⟩ s1) ⟨b, 3, none⟩ (.int .i64 ((cntF f n : Int) + 1)) kb (fun e => hne e.symm)).trans k2
  have o1 := (Below.heap_setCell w ⟨kb, c * 2, none⟩ r1 b hne).trans h.obj
  have o2 := (Below.heap_setCell (w.setCell ⟨kb, c * 2, none⟩ r1) ⟨kb, c * 2 + 1, none⟩ s1 b hne).trans o1
  have o3 := heap_setCell_at (j := 3) (u := .int .i64 ((cntF f n : Int) + 1)) o2
  have tr : ∀ (e : TypeId) (v : Value) (k : Nat) (xs : List Value), e = 120 ∨ e = 5 → w.ownsRow 0 e 1 v k xs → (((w.setCell ⟨kb, c * 2, none⟩ r1).setCell ⟨kb, c * 2 + 1, none⟩ s1).setCell ⟨b, 3, none⟩ (.int .i64 ((cntF f n : Int) + 1))).ownsRow 0 e 1 v k xs := fun e v k xs he ho =>
    own_set (own_set (own_set ho hk (by rcases he with rfl | rfl <;> decide) _ _) k1 (by rcases he with rfl | rfl <;> decide) _ _) o2 (by rcases he with rfl | rfl <;> decide) _ _
  refine ⟨?_, ⟨_, k3⟩, fun d hd => ?_, fun d hd => ?_, h.num⟩
  · rw [cntF_put hf hc]
    exact o3
  · obtain ⟨g1, g2⟩ := h.kcell d hd
    obtain ⟨e1, e2⟩ := h.kcell c hc
    rw [World.cell?_setCell_other (h := addr_ne (.inl hne)), World.cell?_setCell_other (h := addr_ne (.inl hne))]
    unfold updV
    by_cases e : d = c
    · subst e
      rw [if_pos rfl, if_pos rfl]
      exact ⟨by rw [World.cell?_setCell_other (h := addr_ne (.inr (by omega)))]; exact World.cell?_setCell_same _ _ _ e1, World.cell?_setCell_same _ _ _ (by rw [World.cell?_setCell_other (h := addr_ne (.inr (by omega)))]; exact e2)⟩
    · rw [if_neg e, if_neg e]
      refine ⟨?_, ?_⟩ <;> rw [World.cell?_setCell_other (h := addr_ne (.inr (by omega))), World.cell?_setCell_other (h := addr_ne (.inr (by omega)))]
      · exact g1
      · exact g2
  · unfold updV putF
    by_cases e : d = c
    · subst e
      rw [if_pos rfl, if_pos rfl, if_pos rfl]
      exact ⟨tr _ _ _ _ (.inl rfl) h1, tr _ _ _ _ (.inr rfl) h2, hq, hl⟩
    · rw [if_neg e, if_neg e, if_neg e]
      have hp := h.place d hd
      cases hfd : f d with
      | none => rw [hfd] at hp; exact hp
      | some p =>
        rw [hfd] at hp
        exact ⟨tr _ _ _ _ (.inl rfl) hp.1, tr _ _ _ _ (.inr rfl) hp.2.1, hp.2.2⟩

/-- It has clashed. -/
theorem SysM.clash (h : SysM w b kb n size f rv sv false) : SysM (w.setCell ⟨b, 4, none⟩ (.bool true)) b kb n size f rv sv true := by
  have hne := h.ne
  obtain ⟨cur, hk⟩ := h.kobj
  have k3 := (Below.heap_setCell w ⟨b, 4, none⟩ (.bool true) kb (fun e => hne e.symm)).trans hk
  have o3 := heap_setCell_at (j := 4) (u := .bool true) h.obj
  refine ⟨o3, ⟨_, k3⟩, fun d hd => ?_, fun d hd => ?_, h.num⟩
  · obtain ⟨g1, g2⟩ := h.kcell d hd
    rw [World.cell?_setCell_other (h := addr_ne (.inl hne)), World.cell?_setCell_other (h := addr_ne (.inl hne))]
    exact ⟨g1, g2⟩
  · have hp := h.place d hd
    cases hfd : f d with
    | none => rw [hfd] at hp; exact hp
    | some p =>
      rw [hfd] at hp
      exact ⟨own_set hp.1 h.obj (by decide) _ _, own_set hp.2.1 h.obj (by decide) _ _, hp.2.2⟩
end

theorem elAdd_nil {w : World} (v1 v2 : Value) : Calls Tryz.prog 74 #[nilP, v1, v2] w fun e w' => ∃ E, e = .returned (.tuple #[.int .i64 0, E]) ∧ ErrAns 7 nameElAdd w' E ∧ Below w.heap.size w w' := by
  go_enter Tryz.func74, Tryz.ntmps74
  go_wp2_with fail
  refine over_nil.mono ?_
  rintro e w1 ⟨rfl, rfl⟩
  go_wp2_with fail
  refine (New_ans nameElAdd 7 (by decide) _).mono ?_
  rintro e w1 ⟨E1, rfl, he1, hb1⟩
  have HE1 := Lib.hid he1
  have HB1 := Lib.hid hb1
  obtain ⟨u, x, rfl⟩ := he1.some (by decide)
  clear he1 hb1
  go_wp2
  go_ret2
  exact ⟨_, rfl, HE1.out, HB1.out⟩
theorem elAdd_over {w : World} (b : Nat) (v1 v2 : Value) (h : w.cell? ⟨b, 4, none⟩ = some (.bool true)) : Calls Tryz.prog 74 #[sysP b, v1, v2] w fun e w' => ∃ E, e = .returned (.tuple #[.int .i64 0, E]) ∧ ErrAns 7 nameElAdd w' E ∧ Below w.heap.size w w' := by
  have HC := Lib.hid h
  go_enter Tryz.func74, Tryz.ntmps74
  go_wp2_with fail
  refine (over_any b true HC.out).mono ?_
  rintro e w1 ⟨rfl, rfl⟩
  go_wp2_with fail
  refine (New_ans nameElAdd 7 (by decide) _).mono ?_
  rintro e w1 ⟨E1, rfl, he1, hb1⟩
  have HE1 := Lib.hid he1
  have HB1 := Lib.hid hb1
  obtain ⟨u, x, rfl⟩ := he1.some (by decide)
  clear he1 hb1
  go_wp2
  go_ret2
  exact ⟨_, rfl, HE1.out, HB1.out⟩
theorem elAdd_form {w : World} (b n size : Nat) (v1 v2 : Value) (row sym : List Nat) (h0 : w.cell? ⟨b, 0, none⟩ = some (.int .i64 (n : Int))) (h1 : w.cell? ⟨b, 1, none⟩ = some (.int .i64 (size : Int))) (h4 : w.cell? ⟨b, 4, none⟩ = some (.bool false))
    (hr : ListAt wordV w v1 row) (hs : ListAt byteV w v2 sym) (hw : Word row) (hn : n ≤ 4096) (hno : ¬ (wholeB n row = true ∧ sym.length = size)) :
    Calls Tryz.prog 74 #[sysP b, v1, v2] w fun e w' => ∃ E, e = .returned (.tuple #[.int .i64 0, E]) ∧ ErrAns 2 nameElAdd w' E ∧ Below w.heap.size w w' := by
  have HC := Lib.hid h4
  have HR := Lib.hid hr
  have HW := Lib.hid hw
  have hlen := hs.len
  obtain ⟨a1, cp1, rfl, -, -, -⟩ := hr
  obtain ⟨a2, cp2, rfl, -, -, -⟩ := hs
  cases hb : wholeB n row with
  | false =>
    have HWB := Lib.hid hb
    clear hb hno hw
    go_enter Tryz.func74, Tryz.ntmps74
    go_wp2_with fail
    refine (over_any b false HC.out).mono ?_
    rintro e w1 ⟨rfl, rfl⟩
    go_wp2_with fail
    refine (eformed_any _ row n HR.out HW.out hn).mono ?_
    rintro e w1 ⟨rfl, rfl⟩
    rw [HWB.out]
    go_wp2_with fail
    refine (New_ans nameElAdd 2 (by decide) _).mono ?_
    rintro e w1 ⟨E1, rfl, he1, hb1⟩
    have HE1 := Lib.hid he1
    have HB1 := Lib.hid hb1
    obtain ⟨u, x, rfl⟩ := he1.some (by decide)
    clear he1 hb1
    go_wp2
    go_ret2
    exact ⟨_, rfl, HE1.out, HB1.out⟩
  | true =>
    have HWB := Lib.hid hb
    have hne : ¬ sym.length = size := fun e => hno ⟨hb, e⟩
    have hq : ((sym.length : Int) != (size : Int)) = true := by simp; omega
    have hq2 : ((sym.length : Int) == (size : Int)) = false := by simp; omega
    clear hb hno hw hne
    go_enter Tryz.func74, Tryz.ntmps74
    go_wp2_with fail
    refine (over_any b false HC.out).mono ?_
    rintro e w1 ⟨rfl, rfl⟩
    go_wp2_with fail
    refine (eformed_any _ row n HR.out HW.out hn).mono ?_
    rintro e w1 ⟨rfl, rfl⟩
    rw [HWB.out]
    go_wp2_with fail
    refine (New_ans nameElAdd 2 (by decide) _).mono ?_
    rintro e w1 ⟨E1, rfl, he1, hb1⟩
    have HE1 := Lib.hid he1
    have HB1 := Lib.hid hb1
    obtain ⟨u, x, rfl⟩ := he1.some (by decide)
    clear he1 hb1
    go_wp2
    go_ret2
    exact ⟨_, rfl, HE1.out, HB1.out⟩
end Go.Proofs.YticoaioeeppapaaGreatDoor
end

section
/- Package elim: (*System).Add, of an equation of the system's. -/
namespace Go.Proofs.YticoaioeeppapaaGreatDoor
open Go.RowKit Go.Extern.Stop Go.Stop Go.Extern

def ElAddPost (w w' : World) (b kb n size : Nat) (f : Nat → Option Eqn) (l : Vec) (k : Nat) : Prop :=
  Touch b kb w w' ∧ k = kindV n (stL (uF f n) n) l ∧ ∃ f' rv' sv', SysM w' b kb n size f' rv' sv' (decide (k = 3)) ∧ (k = 1 → SpEq (stL (uF f' n) n) (stL (uF f n) n ++ [l]) ∧ cntF f' n = cntF f n + 1) ∧ (k ≠ 1 → f' = f)

set_option maxRecDepth 1000000 in
set_option maxHeartbeats 4000000 in
theorem elAdd_any {w : World} (b kb n size : Nat) (f : Nat → Option Eqn) (rv sv : Nat → Value) (v1 v2 : Value) (row sym : List Nat) (hS : SysM w b kb n size f rv sv false) (hT : Tab w)
    (h1 : ListAt wordV w v1 row) (h2 : ListAt byteV w v2 sym) (hok : EqOk n size (row, sym)) :
    Calls Tryz.prog 74 #[sysP b, v1, v2] w fun e w' => ∃ k : Nat, e = .returned (.tuple #[.int .i64 (k : Int), .nilIface]) ∧ ElAddPost w w' b kb n size f (longV row sym n) k := by
  obtain ⟨hn1, hn2, hs1, hs2⟩ := hS.num
  have hK64 : kOf n ≤ 64 := kOf_le hn2
  have hKp : 0 < kOf n := by unfold kOf; omega
  obtain ⟨hc0, hc1, hc2, hc3, hc4⟩ := hS.cells
  have hne := hS.ne
  have HS := Lib.hid hS
  have HT := Lib.hid hT
  have HOK := Lib.hid hok
  have HR := Lib.hid h1
  have HSY := Lib.hid h2
  have HWB : Hid (wholeB n row = true) := Lib.hid (wholeB_iff.2 ⟨hok.1, hok.2.2.1⟩)
  have hsl : sym.length = size := hok.2.2.2.1
  have HSL := Lib.hid hsl
  have HRL : Hid (row.length = kOf n) := Lib.hid hok.1
  have HC4 := Lib.hid hc4
  have HCN := Lib.hid (cntF_le f n)
  obtain ⟨a1, cp1, rfl, -, -, -⟩ := h1
  obtain ⟨a2, cp2, rfl, -, -, -⟩ := h2
  have hq : ((sym.length : Int) != (size : Int)) = false := by simp; omega
  have hq2 : ((sym.length : Int) == (size : Int)) = true := by simp; omega
  clear hS hT hok hsl
  go_enter Tryz.func74, Tryz.ntmps74
  go_wp2_with fail
  refine (over_any b false HC4.out).mono ?_
  rintro e w1 ⟨rfl, rfl⟩
  go_wp2_with fail
  refine (eformed_any _ row n HR.out HOK.out.2.1 hn2).mono ?_
  rintro e w1 ⟨rfl, rfl⟩
  rw [HWB.out]
  go_wp2_with fail
  refine (eqClone_any _ _ row sym HR.out HSY.out (by rw [HRL.out]; omega) (by rw [HSL.out]; omega)).mono ?_
  rintro e w1 ⟨p1, p2, rfl, ho1, ho2, -, -, hb1⟩
  rw [HRL.out] at ho1
  rw [HSL.out] at ho2
  have HO1 := Lib.hid ho1
  have HO2 := Lib.hid ho2
  have HB1 := Lib.hid hb1
  obtain ⟨g1, cg1, rfl⟩ := own_nonnil ho1 hKp
  obtain ⟨g2, cg2, rfl⟩ := own_nonnil ho2 (by omega)
  clear ho1 ho2 hb1
  go_wp2_with fail
  obtain ⟨wz, hwz⟩ : ∃ wz, wz = w1.alloc (.cells #[.slice (some ⟨g1, 0, none⟩) (kOf n) cg1, .slice (some ⟨g2, 0, none⟩) size cg2] 132) := ⟨_, rfl⟩
  rw [← hwz]
  have hbz : Below w1.heap.size w1 wz := by rw [hwz]; exact (Below.refl _ _).alloc (Nat.le_refl _) _
  have hzz : wz.heap[w1.heap.size]? = some (.cells #[.slice (some ⟨g1, 0, none⟩) (kOf n) cg1, .slice (some ⟨g2, 0, none⟩) size cg2] 132 (0, 0)) := by rw [hwz]; exact heap_alloc_new w1 _
  have hzs : w1.heap.size < wz.heap.size := (Array.getElem?_eq_some_iff.1 hzz).1
  have HZZ := Lib.hid hzz
  have hg1 := (HO1.out.lt g1 rfl).2
  have hg2 := (HO2.out.lt g2 rfl).2
  refine (down_any (w0 := w) (w := wz) b kb n size f rv sv false g1 cg1 g2 cg2 row sym HS.out HT.out (HB1.out.trans (hbz.mono HB1.out.size)) (owns_kept HO1.out hbz) (owns_kept HO2.out hbz) HOK.out).mono ?_
  rintro e w4 ⟨x, y, hd, hp1, hp2, hb4, hfr, hres⟩
  have hX := hfr w1.heap.size hzs (by omega) (by omega)
  have hX0 : w4.cell? ⟨w1.heap.size, 0, none⟩ = some (.slice (some ⟨g1, 0, none⟩) (kOf n) cg1) := cell_of_heap (hX.trans HZZ.out) rfl
  have hX1 : w4.cell? ⟨w1.heap.size, 1, none⟩ = some (.slice (some ⟨g2, 0, none⟩) size cg2) := cell_of_heap (hX.trans HZZ.out) rfl
  have HS4 := Lib.hid (HS.out.mono hb4)
  have HD := Lib.hid hd
  have HP1 := Lib.hid hp1
  have HP2 := Lib.hid hp2
  have HB4 := Lib.hid hb4
  have HST := Lib.hid HS.out.stair
  clear hwz hbz hzz hfr hX hp1 hp2 hb4 hd hg1 hg2 hzs HZZ HOK
  rcases hres with ⟨rfl, hz⟩ | ⟨c, rfl, hcn, hfc, hld⟩
  · cases hzb : zeroB y with
    | true =>
      have HZB := Lib.hid hzb
      have HZ := Lib.hid hz
      clear hzb hz
      go_wp2_with fail
      refine (Zero_any _ y (ListAt.of_owns HP2.out)).mono ?_
      rintro e w5 ⟨rfl, rfl⟩
      rw [HZB.out]
      go_wp2
      go_ret2
      have hy0 : ∀ j, y.getD j 0 = 0 := fun j => by
        by_cases hj : j < y.length
        · have := List.all_eq_true.1 HZB.out _ (List.getElem_mem hj)
          rw [List.getD_eq_getElem?_getD, List.getElem?_eq_getElem hj]
          simpa using this
        · simp [List.getD_eq_getElem?_getD, Nat.not_lt.1 hj]
      have hsp := HD.out.span
      rw [longV_zero HZ.out hy0, vadd_comm, vadd_zero] at hsp
      exact ⟨2, rfl, Touch.of HB4.out, (kindV_known hsp).symm, f, rv, sv, HS4.out, fun h => absurd h (by decide), fun _ => rfl⟩
    | false =>
      have HZB := Lib.hid hzb
      have HZ := Lib.hid hz
      have hf4 := frozen_of_heap (j := 4) HS4.out.obj
      have hc4' := HS4.out.cells.2.2.2.2
      clear hzb hz
      go_wp2_with fail
      refine (Zero_any _ y (ListAt.of_owns HP2.out)).mono ?_
      rintro e w5 ⟨rfl, rfl⟩
      rw [HZB.out]
      go_wp2
      go_ret2
      have hy0 : ∃ j, y.getD j 0 ≠ 0 := by
        apply Classical.byContradiction
        intro hno
        have : zeroB y = true := by
          unfold zeroB
          rw [List.all_eq_true]
          intro z hz
          obtain ⟨j, hj, rfl⟩ := List.getElem_of_mem hz
          have h1 : ¬ y.getD j 0 ≠ 0 := fun h => hno ⟨j, h⟩
          rw [List.getD_eq_getElem?_getD, List.getElem?_eq_getElem hj] at h1
          simpa using h1
        rw [this] at HZB
        exact Bool.noConfusion HZB.out
      obtain ⟨j, hj⟩ := hy0
      have hk3 : kindV n (stL (uF f n) n) (longV row sym n) = 3 := kindV_clash HST.out HD.out.span (fun c hc => by rw [longV_row hc, HZ.out]; rfl) (longV_ne HD.out.ok.2.2.2.2 hj)
      exact ⟨3, rfl, (Touch.of HB4.out).setCell (p := ⟨b, 4, none⟩) (.inl rfl) _, hk3.symm, f, rv, sv, HS4.out.clash, fun h => absurd h (by decide), fun _ => rfl⟩
  · obtain ⟨hc0, hc1, hc2, hc3, hc4⟩ := HS4.out.cells
    obtain ⟨hk0, hk1⟩ := HS4.out.kcell c hcn
    obtain ⟨cur, hkob⟩ := HS4.out.kobj
    have hf0 := frozen_of_heap (j := c * 2) hkob
    have hf1 := frozen_of_heap (j := c * 2 + 1) hkob
    have hf3 := frozen_of_heap (j := 3) HS4.out.obj
    have HFC := Lib.hid hfc
    have HLD := Lib.hid hld
    have hcI : (c : Int) < (n : Int) := by omega
    have hcI0 : (0 : Int) ≤ (c : Int) := by omega
    have hcnt := HCN.out
    clear hkob hfc hld
    generalize hcq : cntF f n = cq at *
    have hwr : IntKind.i64.wrap ((cq : Int) + 1) = (cq : Int) + 1 := IntWalk.i64_in _ (by omega)
    go_wp2_with fail
    go_region
    go_wp2
    go_ret2
    have hk1 : kindV n (stL (uF f n) n) (longV row sym n) = 1 := kindV_fresh HST.out HD.out.span hcn (uF_none HFC.out) (longV_lead hcn HLD.out)
    have hput := HS4.out.put (q := (x, y)) hcn HFC.out (ownsRow_base HP1.out (Nat.zero_le _)) (ownsRow_base HP2.out (Nat.zero_le _)) HD.out.ok HLD.out
    rw [hcq] at hput
    refine ⟨1, rfl, ?_, hk1.symm, putF f c (x, y), updV rv c (.slice (some ⟨g1, 0, none⟩) (kOf n) cg1), updV sv c (.slice (some ⟨g2, 0, none⟩) size cg2), ?_, fun _ => ⟨?_, ?_⟩, fun h => absurd rfl h⟩
    · exact (((Touch.of HB4.out).setCell (p := ⟨kb, c * 2, none⟩) (.inr rfl) _).setCell (p := ⟨kb, c * 2 + 1, none⟩) (.inr rfl) _).drew.setCell (p := ⟨b, 3, none⟩) (.inl rfl) _
    · exact hput.mono (Below.refl _ _).drew
    · rw [uF_put]
      exact stair_snoc HD.out.span hcn (uF_none HFC.out)
    · rw [cntF_put HFC.out hcn, hcq]
end Go.Proofs.YticoaioeeppapaaGreatDoor
end
