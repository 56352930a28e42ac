import Derived.Test.YtkhdjjcflbdegaaGreatDoorG25
import Derived.Test.YtkhdjjcflbdegaaGreatDoorG22

section
/- Package elim: (*System).Add, of an equation of the system's: where the kept rows lie behind it. -/
namespace Go.Proofs.YtkhdjjcflbdegaaGreatDoor
open Go.RowKit Go.Extern.Stop Go.Stop Go.Extern

/-- Rows lie where they lay, or in memory that is new. -/
def RowsFar (B : Nat) (rv sv rv' sv' : Nat → Value) : Prop := ∀ c g, ((rv' c).ownBlock = some g ∨ (sv' c).ownBlock = some g) → ((rv c).ownBlock = some g ∨ (sv c).ownBlock = some g) ∨ B ≤ g
theorem RowsFar.same (B : Nat) (rv sv : Nat → Value) : RowsFar B rv sv rv sv := fun _ _ h => .inl h

def ElFarPost (w w' : World) (b kb n size : Nat) (f : Nat → Option Eqn) (rv sv : Nat → Value) (l : Vec) (k : Nat) : Prop :=
  Touch b kb w w' ∧ k = kindV n (stL (uF f n) n) l ∧ ∃ f' rv' sv', SysM w' b kb n size f' rv' sv' (decide (k = 3)) ∧ (k = 1 → SpEq (stL (uF f' n) n) (stL (uF f n) n ++ [l]) ∧ cntF f' n = cntF f n + 1) ∧ (k ≠ 1 → f' = f) ∧ RowsFar w.heap.size rv sv rv' sv'

set_option maxRecDepth 1000000 in
set_option maxHeartbeats 4000000 in
theorem elAdd_far {w : World} (b kb n size : Nat) (f : Nat → Option Eqn) (rv sv : Nat → Value) (v1 v2 : Value) (row sym : List Nat) (hS : SysM w b kb n size f rv sv false) (hT : Tab w)
    (h1 : ListAt wordV w v1 row) (h2 : ListAt byteV w v2 sym) (hok : EqOk n size (row, sym)) :
    Calls Tryz.prog 35 #[sysP b, v1, v2] w fun e w' => ∃ k : Nat, e = .returned (.tuple #[.int .i64 (k : Int), .nilIface]) ∧ ElFarPost w w' b kb n size f rv sv (longV row sym n) k := by
  obtain ⟨hn1, hn2, hs1, hs2⟩ := hS.num
  have hK64 : kOf n ≤ 64 := kOf_le hn2
  have hKp : 0 < kOf n := by unfold kOf; omega
  obtain ⟨hc0, hc1, hc2, hc3, hc4⟩ := hS.cells
  have hne := hS.ne
  have HS := Lib.hid hS
  have HT := Lib.hid hT
  have HOK := Lib.hid hok
  have HR := Lib.hid h1
  have HSY := Lib.hid h2
  have HWB : Hid (wholeB n row = true) := Lib.hid (wholeB_iff.2 ⟨hok.1, hok.2.2.1⟩)
  have hsl : sym.length = size := hok.2.2.2.1
  have HSL := Lib.hid hsl
  have HRL : Hid (row.length = kOf n) := Lib.hid hok.1
  have HC4 := Lib.hid hc4
  have HCN := Lib.hid (cntF_le f n)
  obtain ⟨a1, cp1, rfl, -, -, -⟩ := h1
  obtain ⟨a2, cp2, rfl, -, -, -⟩ := h2
  have hq : ((sym.length : Int) != (size : Int)) = false := by simp; omega
  have hq2 : ((sym.length : Int) == (size : Int)) = true := by simp; omega
  clear hS hT hok hsl
  go_enter Tryz.func35, Tryz.ntmps35
  go_wp2_with fail
  refine (over_any b false HC4.out).mono ?_
  rintro e w1 ⟨rfl, rfl⟩
  go_wp2_with fail
  refine (eformed_any _ row n HR.out HOK.out.2.1 hn2).mono ?_
  rintro e w1 ⟨rfl, rfl⟩
  rw [HWB.out]
  go_wp2_with fail
  refine (eqClone_any _ _ row sym HR.out HSY.out (by rw [HRL.out]; omega) (by rw [HSL.out]; omega)).mono ?_
  rintro e w1 ⟨p1, p2, rfl, ho1, ho2, -, -, hb1⟩
  rw [HRL.out] at ho1
  rw [HSL.out] at ho2
  have HO1 := Lib.hid ho1
  have HO2 := Lib.hid ho2
  have HB1 := Lib.hid hb1
  obtain ⟨g1, cg1, rfl⟩ := own_nonnil ho1 hKp
  obtain ⟨g2, cg2, rfl⟩ := own_nonnil ho2 (by omega)
  clear ho1 ho2 hb1
  go_wp2_with fail
  obtain ⟨wz, hwz⟩ : ∃ wz, wz = w1.alloc (.cells #[.slice (some ⟨g1, 0, none⟩) (kOf n) cg1, .slice (some ⟨g2, 0, none⟩) size cg2] 120) := ⟨_, rfl⟩
  rw [← hwz]
  have hbz : Below w1.heap.size w1 wz := by rw [hwz]; exact (Below.refl _ _).alloc (Nat.le_refl _) _
  have hzz : wz.heap[w1.heap.size]? = some (.cells #[.slice (some ⟨g1, 0, none⟩) (kOf n) cg1, .slice (some ⟨g2, 0, none⟩) size cg2] 120 (0, 0)) := by rw [hwz]; exact heap_alloc_new w1 _
  have hzs : w1.heap.size < wz.heap.size := (Array.getElem?_eq_some_iff.1 hzz).1
  have HZZ := Lib.hid hzz
  have HG1 := Lib.hid (HO1.out.lt g1 rfl).1
  have HG2 := Lib.hid (HO2.out.lt g2 rfl).1
  have hg1 := (HO1.out.lt g1 rfl).2
  have hg2 := (HO2.out.lt g2 rfl).2
  refine (down_any (w0 := w) (w := wz) b kb n size f rv sv false g1 cg1 g2 cg2 row sym HS.out HT.out (HB1.out.trans (hbz.mono HB1.out.size)) (owns_kept HO1.out hbz) (owns_kept HO2.out hbz) HOK.out).mono ?_
  rintro e w4 ⟨x, y, hd, hp1, hp2, hb4, hfr, hres⟩
  have hX := hfr w1.heap.size hzs (by omega) (by omega)
  have hX0 : w4.cell? ⟨w1.heap.size, 0, none⟩ = some (.slice (some ⟨g1, 0, none⟩) (kOf n) cg1) := cell_of_heap (hX.trans HZZ.out) rfl
  have hX1 : w4.cell? ⟨w1.heap.size, 1, none⟩ = some (.slice (some ⟨g2, 0, none⟩) size cg2) := cell_of_heap (hX.trans HZZ.out) rfl
  have HS4 := Lib.hid (HS.out.mono hb4)
  have HD := Lib.hid hd
  have HP1 := Lib.hid hp1
  have HP2 := Lib.hid hp2
  have HB4 := Lib.hid hb4
  have HST := Lib.hid HS.out.stair
  clear hwz hbz hzz hfr hX hp1 hp2 hb4 hd hg1 hg2 hzs HZZ HOK
  rcases hres with ⟨rfl, hz⟩ | ⟨c, rfl, hcn, hfc, hld⟩
  · cases hzb : zeroB y with
    | true =>
      have HZB := Lib.hid hzb
      have HZ := Lib.hid hz
      clear hzb hz
      go_wp2_with fail
      refine (Zero_any _ y (ListAt.of_owns HP2.out)).mono ?_
      rintro e w5 ⟨rfl, rfl⟩
      rw [HZB.out]
      go_wp2
      go_ret2
      have hy0 : ∀ j, y.getD j 0 = 0 := fun j => by
        by_cases hj : j < y.length
        · have := List.all_eq_true.1 HZB.out _ (List.getElem_mem hj)
          rw [List.getD_eq_getElem?_getD, List.getElem?_eq_getElem hj]
          simpa using this
        · simp [List.getD_eq_getElem?_getD, Nat.not_lt.1 hj]
      have hsp := HD.out.span
      rw [longV_zero HZ.out hy0, vadd_comm, vadd_zero] at hsp
      exact ⟨2, rfl, Touch.of HB4.out, (kindV_known hsp).symm, f, rv, sv, HS4.out, fun h => absurd h (by decide), fun _ => rfl, RowsFar.same _ _ _⟩
    | false =>
      have HZB := Lib.hid hzb
      have HZ := Lib.hid hz
      have hf4 := frozen_of_heap (j := 4) HS4.out.obj
      have hc4' := HS4.out.cells.2.2.2.2
      clear hzb hz
      go_wp2_with fail
      refine (Zero_any _ y (ListAt.of_owns HP2.out)).mono ?_
      rintro e w5 ⟨rfl, rfl⟩
      rw [HZB.out]
      go_wp2
      go_ret2
      have hy0 : ∃ j, y.getD j 0 ≠ 0 := by
        apply Classical.byContradiction
        intro hno
        have : zeroB y = true := by
          unfold zeroB
          rw [List.all_eq_true]
          intro z hz
          obtain ⟨j, hj, rfl⟩ := List.getElem_of_mem hz
          have h1 : ¬ y.getD j 0 ≠ 0 := fun h => hno ⟨j, h⟩
          rw [List.getD_eq_getElem?_getD, List.getElem?_eq_getElem hj] at h1
          simpa using h1
        rw [this] at HZB
        exact Bool.noConfusion HZB.out
      obtain ⟨j, hj⟩ := hy0
      have hk3 : kindV n (stL (uF f n) n) (longV row sym n) = 3 := kindV_clash HST.out HD.out.span (fun c hc => by rw [longV_row hc, HZ.out]; rfl) (longV_ne HD.out.ok.2.2.2.2 hj)
      exact ⟨3, rfl, (Touch.of HB4.out).setCell (p := ⟨b, 4, none⟩) (.inl rfl) _, hk3.symm, f, rv, sv, HS4.out.clash, fun h => absurd h (by decide), fun _ => rfl, RowsFar.same _ _ _⟩
  · obtain ⟨hc0, hc1, hc2, hc3, hc4⟩ := HS4.out.cells
    obtain ⟨hk0, hk1⟩ := HS4.out.kcell c hcn
    obtain ⟨cur, hkob⟩ := HS4.out.kobj
    have hf0 := frozen_of_heap (j := c * 2) hkob
    have hf1 := frozen_of_heap (j := c * 2 + 1) hkob
    have hf3 := frozen_of_heap (j := 3) HS4.out.obj
    have HFC := Lib.hid hfc
    have HLD := Lib.hid hld
    have hcI : (c : Int) < (n : Int) := by omega
    have hcI0 : (0 : Int) ≤ (c : Int) := by omega
    have hcnt := HCN.out
    clear hkob hfc hld
    generalize hcq : cntF f n = cq at *
    have hwr : IntKind.i64.wrap ((cq : Int) + 1) = (cq : Int) + 1 := IntWalk.i64_in _ (by omega)
    go_wp2_with fail
    go_region
    go_wp2
    go_ret2
    have hk1 : kindV n (stL (uF f n) n) (longV row sym n) = 1 := kindV_fresh HST.out HD.out.span hcn (uF_none HFC.out) (longV_lead hcn HLD.out)
    have hput := HS4.out.put (q := (x, y)) hcn HFC.out (ownsRow_base HP1.out (Nat.zero_le _)) (ownsRow_base HP2.out (Nat.zero_le _)) HD.out.ok HLD.out
    rw [hcq] at hput
    refine ⟨1, rfl, ?_, hk1.symm, putF f c (x, y), updV rv c (.slice (some ⟨g1, 0, none⟩) (kOf n) cg1), updV sv c (.slice (some ⟨g2, 0, none⟩) size cg2), ?_, fun _ => ⟨?_, ?_⟩, fun h => absurd rfl h, fun d g hd => ?_⟩
    · exact (((Touch.of HB4.out).setCell (p := ⟨kb, c * 2, none⟩) (.inr rfl) _).setCell (p := ⟨kb, c * 2 + 1, none⟩) (.inr rfl) _).drew.setCell (p := ⟨b, 3, none⟩) (.inl rfl) _
    · exact hput.mono (Below.refl _ _).drew
    · rw [uF_put]
      exact stair_snoc HD.out.span hcn (uF_none HFC.out)
    · rw [cntF_put HFC.out hcn, hcq]
    · unfold updV at hd
      by_cases e : d = c
      · rw [if_pos e, if_pos e] at hd
        rcases hd with hd | hd
        · have : g1 = g := by simpa [Value.ownBlock] using hd
          rw [← this]; exact .inr HG1.out
        · have : g2 = g := by simpa [Value.ownBlock] using hd
          rw [← this]; exact .inr HG2.out
      · rw [if_neg e, if_neg e] at hd
        exact .inl hd

/-- A system, its rows in blocks that A names. -/
def SysA (A : Nat → Prop) (w : World) (b n size : Nat) (K : List Vec) (r : Nat) (cl : Bool) (kb : Nat) : Prop :=
  ∃ f rv sv, SysM w b kb n size f rv sv cl ∧ SpEq (stL (uF f n) n) K ∧ cntF f n = r ∧ ∀ c, c < n → ∀ g, ((rv c).ownBlock = some g ∨ (sv c).ownBlock = some g) → A g
section
variable {A A' : Nat → Prop} {w w' : World} {b kb n size r : Nat} {K : List Vec} {cl : Bool}
theorem SysA.sys (h : SysA A w b n size K r cl kb) : Sys w b n size K r cl kb := by
  obtain ⟨f, rv, sv, h1, h2, h3, -⟩ := h
  exact ⟨f, rv, sv, h1, h2, h3⟩
theorem own_block {e : TypeId} {base k : Nat} {v : Value} {xs : List Value} (h : w.ownsRow base e 1 v k xs) {g : Nat} (hg : v.ownBlock = some g) : base ≤ g ∧ ∃ cur, w.heap[g]? = some (.cells cur e (0, 0)) := by
  rcases h.2 with ⟨rfl, _⟩ | ⟨g', cap, cur, rfl, hb, hh, _⟩
  · simp [Value.ownBlock] at hg
  · obtain rfl : g' = g := by simpa [Value.ownBlock] using hg
    exact ⟨hb, cur, hh⟩
theorem SysM.rowlt {f : Nat → Option Eqn} {rv sv : Nat → Value} (h : SysM w b kb n size f rv sv cl) {c g : Nat} (hc : c < n) (hg : (rv c).ownBlock = some g ∨ (sv c).ownBlock = some g) : g < w.heap.size := by
  have hp := h.place c hc
  cases hf : f c with
  | none =>
    rw [hf] at hp
    rw [hp.1, hp.2] at hg
    rcases hg with hg | hg <;> simp [Value.ownBlock] at hg
  | some q =>
    rw [hf] at hp
    rcases hg with hg | hg
    · obtain ⟨-, cur, hh⟩ := own_block hp.1 hg
      exact (Array.getElem?_eq_some_iff.1 hh).1
    · obtain ⟨-, cur, hh⟩ := own_block hp.2.1 hg
      exact (Array.getElem?_eq_some_iff.1 hh).1
theorem Sys.here (h : Sys w b n size K r cl kb) (hA : ∀ g, g < w.heap.size → A g) : SysA A w b n size K r cl kb := by
  obtain ⟨f, rv, sv, h1, h2, h3⟩ := h
  exact ⟨f, rv, sv, h1, h2, h3, fun c hc g hg => hA g (h1.rowlt hc hg)⟩
theorem own_keep {e : TypeId} {v : Value} {k base : Nat} {xs : List Value} (h : w.ownsRow base e 1 v k xs) (hs : ∀ g, v.ownBlock = some g → g < w.heap.size → w'.heap[g]? = w.heap[g]?) : w'.ownsRow base e 1 v k xs := by
  refine ⟨h.1, ?_⟩
  rcases h.2 with h1 | ⟨g, cap, cur, h1, h2, h3, h4⟩
  · exact .inl h1
  · exact .inr ⟨g, cap, cur, h1, h2, by rw [hs g (by rw [h1]; rfl) (Array.getElem?_eq_some_iff.1 h3).1]; exact h3, h4⟩
/-- Nothing has turned that A names. -/
theorem SysA.keep (h : SysA A w b n size K r cl kb) (hb : w'.heap[b]? = w.heap[b]?) (hk : w'.heap[kb]? = w.heap[kb]?) (hs : ∀ g, A g → g < w.heap.size → w'.heap[g]? = w.heap[g]?) : SysA A w' b n size K r cl kb := by
  obtain ⟨f, rv, sv, h1, h2, h3, h4⟩ := h
  refine ⟨f, rv, sv, ⟨by rw [hb]; exact h1.obj, by rw [hk]; exact h1.kobj, fun c hc => ?_, fun c hc => ?_, h1.num⟩, h2, h3, h4⟩
  · obtain ⟨g1, g2⟩ := h1.kcell c hc
    exact ⟨(World.cell?_of_block (w := w) (a := ⟨kb, c * 2, none⟩) hk).trans g1, (World.cell?_of_block (w := w) (a := ⟨kb, c * 2 + 1, none⟩) hk).trans g2⟩
  · have hp := h1.place c hc
    cases hf : f c with
    | none => rw [hf] at hp; exact hp
    | some q =>
      rw [hf] at hp
      exact ⟨own_keep hp.1 fun g hg hl => hs g (h4 c hc g (.inl hg)) hl, own_keep hp.2.1 fun g hg hl => hs g (h4 c hc g (.inr hg)) hl, hp.2.2⟩
/-- Nothing has turned that A names, of the rows' kinds. -/
theorem SysA.keep2 (h : SysA A w b n size K r cl kb) (hb : w'.heap[b]? = w.heap[b]?) (hk : w'.heap[kb]? = w.heap[kb]?) (hs : ∀ (g : Nat) (cur : Array Value) (e : TypeId), e = 163 ∨ e = 5 → A g → w.heap[g]? = some (.cells cur e (0, 0)) → w'.heap[g]? = w.heap[g]?) : SysA A w' b n size K r cl kb := by
  obtain ⟨f, rv, sv, h1, h2, h3, h4⟩ := h
  refine ⟨f, rv, sv, ⟨by rw [hb]; exact h1.obj, by rw [hk]; exact h1.kobj, fun c hc => ?_, fun c hc => ?_, h1.num⟩, h2, h3, h4⟩
  · obtain ⟨g1, g2⟩ := h1.kcell c hc
    exact ⟨(World.cell?_of_block (w := w) (a := ⟨kb, c * 2, none⟩) hk).trans g1, (World.cell?_of_block (w := w) (a := ⟨kb, c * 2 + 1, none⟩) hk).trans g2⟩
  · have hp := h1.place c hc
    cases hf : f c with
    | none => rw [hf] at hp; exact hp
    | some q =>
      rw [hf] at hp
      refine ⟨own_keep hp.1 fun g hg hl => ?_, own_keep hp.2.1 fun g hg hl => ?_, hp.2.2⟩
      · obtain ⟨-, cur, hh⟩ := own_block hp.1 hg
        exact hs g cur _ (.inl rfl) (h4 c hc g (.inl hg)) hh
      · obtain ⟨-, cur, hh⟩ := own_block hp.2.1 hg
        exact hs g cur _ (.inr rfl) (h4 c hc g (.inr hg)) hh
theorem SysA.weaken (h : SysA A w b n size K r cl kb) (hA : ∀ g, A g → A' g) : SysA A' w b n size K r cl kb := by
  obtain ⟨f, rv, sv, h1, h2, h3, h4⟩ := h
  exact ⟨f, rv, sv, h1, h2, h3, fun c hc g hg => hA g (h4 c hc g hg)⟩
/-- A block of another kind than the two that are touched. -/
theorem touch_kind {x kx n2 size2 r2 : Nat} {K2 : List Vec} {cl2 : Bool} (hs : Sys w x n2 size2 K2 r2 cl2 kx) (ht : Touch x kx w w') {g : Nat} {cur : Array Value} {e : TypeId} (he : e ≠ 111 ∧ e ≠ 120) (hg : w.heap[g]? = some (.cells cur e (0, 0))) : w'.heap[g]? = w.heap[g]? := by
  obtain ⟨f, rv, sv, h1, -, -⟩ := hs
  refine ht.block g (Array.getElem?_eq_some_iff.1 hg).1 (fun e1 => ?_) (fun e1 => ?_)
  · have := h1.obj
    rw [← e1, hg] at this
    simp at this
    exact he.1 this.2
  · obtain ⟨cur', hc⟩ := h1.kobj
    rw [← e1, hg] at hc
    simp at hc
    exact he.2 hc.2
/-- Another system is touched. -/
theorem SysA.touch {x kx n2 size2 r2 : Nat} {K2 : List Vec} {cl2 : Bool} (h : SysA A w b n size K r cl kb) (hs : Sys w x n2 size2 K2 r2 cl2 kx) (ht : Touch x kx w w') (hb : b ≠ x) (hk : kb ≠ kx) : SysA A w' b n size K r cl kb := by
  have h' := h.sys
  obtain ⟨f, rv, sv, h1, -, -⟩ := h'
  obtain ⟨f2, rv2, sv2, k1, -, -⟩ := hs
  have e1 : b ≠ kx := fun e => by
    obtain ⟨cur, hc⟩ := k1.kobj
    have := h1.obj
    rw [e, hc] at this
    simp at this
  have e2 : kb ≠ x := fun e => by
    obtain ⟨cur, hc⟩ := h1.kobj
    have := k1.obj
    rw [← e, hc] at this
    simp at this
  exact h.keep2 (ht.block b h1.lt hb e1) (ht.block kb h1.klt e2 hk) fun g cur e he _ hg => touch_kind ⟨f2, rv2, sv2, k1, SpEq.refl _, rfl⟩ ht (by rcases he with rfl | rfl <;> decide) hg
theorem SysA.mono (h : SysA A w b n size K r cl kb) (hb : Below w.heap.size w w') : SysA A w' b n size K r cl kb :=
  h.keep (hb.block _ h.sys.base.1) (hb.block _ h.sys.base.2.1) fun g _ hl => hb.block g hl
theorem SysA.congr {M : List Vec} (h : SysA A w b n size K r cl kb) (e : SpEq K M) : SysA A w b n size M r cl kb := by
  obtain ⟨f, rv, sv, h1, h2, h3, h4⟩ := h
  exact ⟨f, rv, sv, h1, h2.trans e, h3, h4⟩

theorem sysAddA {w : World} (b n size : Nat) (K : List Vec) (r kb : Nat) (v1 v2 : Value) (row sym : List Nat) (hS : SysA A w b n size K r false kb) (hA : ∀ g, w.heap.size ≤ g → A g) (hT : Tab w) (h1 : ListAt wordV w v1 row) (h2 : ListAt byteV w v2 sym) (hok : EqOk n size (row, sym)) :
    Calls Tryz.prog 35 #[sysP b, v1, v2] w fun e w' => e = .returned (.tuple #[.int .i64 (kindV n K (longV row sym n) : Nat), .nilIface]) ∧ Touch b kb w w' ∧
      SysA A w' b n size (if kindV n K (longV row sym n) = 1 then K ++ [longV row sym n] else K) (addR n K (longV row sym n) r) (decide (kindV n K (longV row sym n) = 3)) kb := by
  obtain ⟨f, rv, sv, k1, k2, rfl, k4⟩ := hS
  refine (elAdd_far b kb n size f rv sv v1 v2 row sym k1 hT h1 h2 hok).mono ?_
  rintro e w' ⟨k, rfl, ht, hk, f', rv', sv', m1, m2, m3, m4⟩
  rw [kindV_congr k2] at hk
  refine ⟨by rw [hk], ht, f', rv', sv', by rw [← hk]; exact m1, ?_, ?_, fun c hc g hg => ?_⟩
  · rw [← hk]
    by_cases e1 : k = 1
    · rw [if_pos e1]; exact (m2 e1).1.trans (k2.snoc _)
    · rw [if_neg e1, m3 e1]; exact k2
  · unfold addR
    rw [← hk]
    by_cases e1 : k = 1
    · rw [if_pos e1, (m2 e1).2]
    · rw [if_neg e1, m3 e1]; rfl
  · rcases m4 c g hg with h | h
    · exact k4 c hc g h
    · exact hA g h
end
end Go.Proofs.YtkhdjjcflbdegaaGreatDoor
end

section
/- Package elim: Clashed (parted from ElA: where no call reaches it, the cut has no body of it). -/
namespace Go.Proofs.YtkhdjjcflbdegaaGreatDoor
open Go.RowKit Go.Extern.Stop Go.Stop Go.Extern

theorem Clashed_nil {w : World} : Calls Tryz.prog 44 #[nilP] w fun e w' => e = .returned (.bool false) ∧ w = w' := by
  go_enter Tryz.func44, Tryz.ntmps44
  go_wp2
  go_ret
  exact ⟨rfl, rfl⟩
theorem Clashed_any {w : World} (b : Nat) (cl : Bool) (h : w.cell? ⟨b, 4, none⟩ = some (.bool cl)) : Calls Tryz.prog 44 #[sysP b] w fun e w' => e = .returned (.bool cl) ∧ w = w' := by
  go_enter Tryz.func44, Tryz.ntmps44
  go_wp2
  go_ret
  exact ⟨rfl, rfl⟩
end Go.Proofs.YtkhdjjcflbdegaaGreatDoor
end
