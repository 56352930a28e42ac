import Derived.Test.YtkhdjjcflbdegaaGreatDoorH3
import Derived.Test.YtkhdjjcflbdegaaGreatDoorG26
import Derived.Test.YtkhdjjcflbdegaaGreatDoorG02
import Derived.Deep.RegionLaw
import Derived.Deep.Cut

section
/- Package decode: Add. -/
namespace Go.Proofs.YtkhdjjcflbdegaaGreatDoor
open Go.RowKit Go.Extern.Stop Go.Stop Go.Extern

set_option maxRecDepth 1000000 in
theorem DeAdd_nil {w : World} (x v : Value) : Calls Tryz.prog 16 #[nilP, x, v] w (NoSays 7 nameDeAdd (.int .i64 0) w) := by
  go_enter Tryz.func16, Tryz.ntmps16
  go_wp2_with fail
  refine (New_ans nameDeAdd 7 (by decide) _).mono ?_
  rintro e w1 ⟨E, rfl, hea, hb1⟩
  have HEA := Lib.hid hea
  have HB1 := Lib.hid hb1
  obtain ⟨u, x, rfl⟩ := hea.some (by decide)
  clear hea hb1
  go_wp2
  go_ret2
  exact ⟨_, rfl, HEA.out, HB1.out⟩

set_option maxRecDepth 1000000 in
theorem DeAdd_over {A : Nat → Prop} {w : World} {B g b kb k s h l p sd size : Nat} {K : List Vec} (d : DecAt A w B g b kb k s h l p sd size K true) (x v : Value) : Calls Tryz.prog 16 #[.pointer (some ⟨g, 0, none⟩), x, v] w (NoSays 7 nameDeAdd (.int .i64 0) w) := by
  have HC := Lib.hid (DeClashed_any d)
  clear d
  go_enter Tryz.func16, Tryz.ntmps16
  go_wp2_with fail
  refine HC.out.mono ?_
  rintro e w1 ⟨rfl, rfl⟩
  go_wp2_with fail
  refine (New_ans nameDeAdd 7 (by decide) _).mono ?_
  rintro e w1 ⟨E, rfl, hea, hb1⟩
  have HEA := Lib.hid hea
  have HB1 := Lib.hid hb1
  obtain ⟨u, x, rfl⟩ := hea.some (by decide)
  clear hea hb1
  go_wp2
  go_ret2
  exact ⟨_, rfl, HEA.out, HB1.out⟩

set_option maxRecDepth 1000000 in
theorem DeAdd_range {A : Nat → Prop} {w : World} {B g b kb k s h l p sd size : Nat} {K : List Vec} (d : DecAt A w B g b kb k s h l p sd size K false) (n : Int) (hn : n < 0 ∨ 65536 ≤ n) (v : Value) : Calls Tryz.prog 16 #[.pointer (some ⟨g, 0, none⟩), .int .i64 n, v] w (NoSays 1 nameDeAdd (.int .i64 0) w) := by
  have HC := Lib.hid (DeClashed_any d)
  have HR := Lib.hid (DeRow_no d.box d.k2 n hn)
  clear d hn
  go_enter Tryz.func16, Tryz.ntmps16
  go_wp2_with fail
  refine HC.out.mono ?_
  rintro e w1 ⟨rfl, rfl⟩
  go_wp2_with fail
  refine HR.out.mono ?_
  rintro e w1 ⟨E, rfl, hea, hb1⟩
  obtain ⟨ls, hch⟩ : ∃ ls, Chain w1 1 (nameLRow :: ls) E := (hea.resolve_left (by rintro ⟨h, -⟩; cases h)).2
  have HB1 := Lib.hid hb1
  have HCH := Lib.hid hch
  obtain ⟨u, x, rfl⟩ := hch.iface
  clear hea hb1 hch
  go_wp2_with fail
  refine (Wrap_chain nameDeAdd 1 _ _ _ HCH.out).mono ?_
  rintro e w4 ⟨E2, rfl, hch, hb4⟩
  have HB4 := Lib.hid (HB1.out.trans (hb4.mono HB1.out.size))
  have HCH2 := Lib.hid hch
  obtain ⟨u2, x2, rfl⟩ := hch.iface
  clear hch hb4
  go_wp2
  go_ret2
  exact ⟨_, rfl, .inr ⟨by decide, _, HCH2.out⟩, HB4.out⟩

set_option maxRecDepth 1000000 in
theorem DeAdd_form {A : Nat → Prop} {w : World} {B g b kb k s h l p sd size : Nat} {K : List Vec} (d : DecAt A w B g b kb k s h l p sd size K false) (n : Nat) (hn : n < 65536) (v : Value) (y : List Nat) (hv : ListAt byteV w v y) (hy : y.length ≠ size) (hT : DgTab w) : Calls Tryz.prog 16 #[.pointer (some ⟨g, 0, none⟩), .int .i64 (n : Int), v] w (NoSays 2 nameDeAdd (.int .i64 0) w) := by
  have HC := Lib.hid (DeClashed_any d)
  have HR := Lib.hid (DeRow_ok d.box d.of d.k1 d.k2 d.seed.1 n hn hT)
  have hlen := (packR_packs l (rowE l p sd n)).1
  have hls := d.sys.sys.base.2.2.2.2.1
  have HEF : Hid (∀ V x, Below w.heap.size w V → ListAt wordV V x (packR l (rowE l p sd n)) → Calls Tryz.prog 35 #[sysP b, x, v] V fun e w' => ∃ E, e = .returned (.tuple #[.int .i64 0, E]) ∧ ErrAns 2 nameElAdd w' E ∧ Below V.heap.size V w') := Lib.hid fun V x hV hx => by
    obtain ⟨e0, e1, -, -, e4⟩ := (d.sys.sys.mono hV).cells
    exact elAdd_form b l size x v _ y e0 e1 e4 hx (hv.mono hV) (packR_word l _) hls (fun hh => hy hh.2)
  have HSAT : Hid (∀ V, Below w.heap.size w V → V.cell? ⟨g, 7, none⟩ = some (sysP b)) := Lib.hid fun V hV => (d.box.mono hV).cells.2.2.2.2.2.2.2.1
  obtain ⟨av, cv, rfl, -, -, -⟩ := hv
  clear d hT hy hn
  go_enter Tryz.func16, Tryz.ntmps16
  go_wp2_with fail
  refine HC.out.mono ?_
  rintro e w1 ⟨rfl, rfl⟩
  go_wp2_with fail
  refine HR.out.mono ?_
  rintro e w1 ⟨a1, q1, rfl, ho1, hb1⟩
  have HB1 := Lib.hid hb1
  have hsz := hb1.size
  have HE1 := Lib.hid (HEF.out w1 _ hb1 (ListAt.of_owns (f := wordV) ho1))
  have c7 := HSAT.out w1 hb1
  clear ho1 hb1
  go_wp2_with fail
  refine HE1.out.mono ?_
  rintro e w2 ⟨E, rfl, hea, hb2⟩
  obtain ⟨ls, hch⟩ : ∃ ls, Chain w2 2 (nameElAdd :: ls) E := (hea.resolve_left (by rintro ⟨h, -⟩; cases h)).2
  have HB2 := Lib.hid (HB1.out.trans (hb2.mono hsz))
  have HCH := Lib.hid hch
  obtain ⟨u, x, rfl⟩ := hch.iface
  clear hea hb2 hch c7
  go_wp2_with fail
  refine (Wrap_chain nameDeAdd 2 _ _ _ HCH.out).mono ?_
  rintro e w4 ⟨E2, rfl, hch, hb4⟩
  have HB4 := Lib.hid (HB2.out.trans (hb4.mono HB2.out.size))
  have HCH2 := Lib.hid hch
  obtain ⟨u2, x2, rfl⟩ := hch.iface
  clear hch hb4
  go_wp2
  go_ret2
  exact ⟨_, rfl, .inr ⟨by decide, _, HCH2.out⟩, HB4.out⟩

theorem addV_near {n : Nat} {K : List Vec} {e : Vec} : SpEq (if kindV n K e = 1 then K ++ [e] else K) (addV n K e) := by
  unfold addV
  rcases kindV_cases n K e with ⟨h, hs⟩ | ⟨h, hs⟩ | ⟨h, hs⟩
  · rw [h, if_pos rfl, if_neg (by decide)]; exact SpEq.refl _
  · rw [h, if_neg (by decide), if_neg (by decide)]; exact (SpEq.snoc_in (kindV_two h)).symm
  · rw [h, if_neg (by decide), if_pos rfl]; exact SpEq.refl _

/-- What Add says of an encoding symbol of the right size. -/
def DeAddSays (A : Nat → Prop) (w : World) (B g b kb k s h l p sd size : Nat) (K : List Vec) (e : Vec) (o : Ending) (w' : World) : Prop :=
  o = .returned (.tuple #[.int .i64 (kindV l K e : Nat), .nilIface]) ∧ DTouch g b kb w w' ∧ DecAt A w' B g b kb k s h l p sd size (addV l K e) (decide (kindV l K e = 3))
set_option maxRecDepth 1000000 in
set_option maxHeartbeats 4000000 in
theorem DeAdd_ok {A : Nat → Prop} {w : World} {B g b kb k s h l p sd size : Nat} {K : List Vec} (d : DecAt A w B g b kb k s h l p sd size K false) (hA : ∀ x, w.heap.size ≤ x → A x) (n : Nat) (hn : n < 65536) (v : Value) (y : List Nat) (hv : ListAt byteV w v y) (hy : y.length = size) (ho : Octets y) (hT : DgTab w) (hB : Tab w) :
    Calls Tryz.prog 16 #[.pointer (some ⟨g, 0, none⟩), .int .i64 (n : Int), v] w (DeAddSays A w B g b kb k s h l p sd size K (eqL l (rowE l p sd n) y)) := by
  have HD := Lib.hid d
  have HC := Lib.hid (DeClashed_any d)
  have HR := Lib.hid (DeRow_ok d.box d.of d.k1 d.k2 d.seed.1 n hn hT)
  have HPL := Lib.hid (packR_packs l (rowE l p sd n)).1
  have HEA : Hid (∀ V x, Below w.heap.size w V → ListAt wordV V x (packR l (rowE l p sd n)) → Calls Tryz.prog 35 #[sysP b, x, v] V fun e w' => e = .returned (.tuple #[.int .i64 (kindV l K (eqL l (rowE l p sd n) y) : Nat), .nilIface]) ∧ Touch b kb V w' ∧
      SysA A w' b l size (addV l K (eqL l (rowE l p sd n) y)) (rkP l (addV l K (eqL l (rowE l p sd n) y))) (decide (kindV l K (eqL l (rowE l p sd n) y) = 3)) kb) := Lib.hid fun V x hV hx => by
    refine (sysAddA b l size K (rkP l K) kb x v _ y (d.sys.mono hV) (fun z hz => hA z (Nat.le_trans hV.size hz)) (hB.mono hV) hx (hv.mono hV) (eqL_ok rowE_lt hy ho)).mono ?_
    rintro e w' ⟨rfl, h1, h2⟩
    refine ⟨rfl, h1, ?_⟩
    have h3 := h2.congr (addV_near (n := l) (K := K) (e := eqL l (rowE l p sd n) y))
    have h4 := addR_rk l K (eqL l (rowE l p sd n) y)
    rw [← h4]
    exact h3
  have HSAT : Hid (∀ V, Below w.heap.size w V → V.cell? ⟨g, 7, none⟩ = some (sysP b)) := Lib.hid fun V hV => (d.box.mono hV).cells.2.2.2.2.2.2.2.1
  have HRL : Hid (rkP l K ≤ l ∧ l ≤ 4096) := Lib.hid ⟨rkP_le _ _, d.sys.sys.base.2.2.2.2.1⟩
  have HAR := Lib.hid (addR_rk l K (eqL l (rowE l p sd n) y))
  have HK2 := Lib.hid (rkP_le l (addV l K (eqL l (rowE l p sd n) y)))
  have HGB := Lib.hid (show g ≠ b ∧ g ≠ kb from ⟨fun e => by
    obtain ⟨⟨c1, k1⟩, -⟩ := d.sys.sys.kinds
    exact (d.kout k1).1 (by decide) e.symm, fun e => by
    obtain ⟨-, ⟨c1, k1⟩⟩ := d.sys.sys.kinds
    exact (d.kout k1).1 (by decide) e.symm⟩)
  obtain ⟨av, cv, rfl, -, -, -⟩ := hv
  unfold DeAddSays
  clear d hA hn hy ho hT hB
  generalize packR l (rowE l p sd n) = PR at *
  generalize eqL l (rowE l p sd n) y = EQ at *
  unfold addR at HAR
  obtain ⟨kd, hkd⟩ : ∃ kd, kindV l K EQ = kd := ⟨_, rfl⟩
  have hkc : kd = 1 ∨ kd = 2 ∨ kd = 3 := by
    rcases kindV_cases l K EQ with ⟨h, _⟩ | ⟨h, _⟩ | ⟨h, _⟩
    · left; rw [← hkd, h]
    · right; left; rw [← hkd, h]
    · right; right; rw [← hkd, h]
  rw [hkd] at HEA HAR ⊢
  clear hkd
  generalize addV l K EQ = K' at *
  go_enter Tryz.func16, Tryz.ntmps16
  go_wp2_with fail
  refine HC.out.mono ?_
  rintro e w1 ⟨rfl, rfl⟩
  go_wp2_with fail
  refine HR.out.mono ?_
  rintro e w1 ⟨a1, q1, rfl, ho1, hb1⟩
  have HB1 := Lib.hid hb1
  have hsz := hb1.size
  have HE1 : Hid (Calls Tryz.prog 35 #[sysP b, .slice a1 (kOf l) q1, .slice av y.length cv] w1 fun e w' => e = .returned (.tuple #[.int .i64 (kd : Int), .nilIface]) ∧ Touch b kb w1 w' ∧
      SysA A w' b l size K' (rkP l K') (decide (kd = 3)) kb) := Lib.hid (HEA.out w1 _ hb1 (ListAt.of_owns (f := wordV) (l := PR) (n := kOf l) ho1))
  have HBX := Lib.hid (HD.out.box.mono hb1)
  have c7 := HSAT.out w1 hb1
  clear ho1 hb1
  go_wp2_with fail
  refine HE1.out.mono ?_
  rintro e w2 ⟨rfl, ht2, hs2⟩
  have HT2 := Lib.hid ((Touch.of HB1.out).trans ht2)
  have hbx2 : DecBox w2 g k s h l p sd size b ((l - rkP l K : Nat) : Int) := (ht2.block g HBX.out.lt HGB.out.1 HGB.out.2).trans HBX.out
  have HBX2 := Lib.hid hbx2
  have HS2 := Lib.hid hs2
  clear ht2 hs2 c7
  rcases hkc with rfl | rfl | rfl
  · have hrk : rkP l K + 1 = rkP l K' := HAR.out
    have HRK := Lib.hid hrk
    have hle := HK2.out
    have hl4 := HRL.out.2
    obtain ⟨-, -, -, -, -, -, -, -, c8⟩ := hbx2.cells
    have f8 := hbx2.free 8
    obtain ⟨m, hm⟩ : ∃ m, l - rkP l K = m + 1 := ⟨l - rkP l K - 1, by omega⟩
    rw [hm] at c8
    have hwr : IntKind.i64.wrap (((m + 1 : Nat) : Int) - 1) = (m : Int) := by rw [IntWalk.i64_in _ (by omega)]; omega
    have hmm : m = l - rkP l K' := by omega
    have hmb : m ≤ 4096 := by omega
    have HMM := Lib.hid hmm
    clear hbx2 hrk hle hm hmm
    go_wp2
    go_ret2
    refine ⟨rfl, (DTouch.touch HT2.out).set 8 _, ?_⟩
    rw [HMM.out]
    exact ⟨HBX2.out.less _, HS2.out.keep2 (Below.heap_setCell _ _ _ _ (fun e => HGB.out.1 e.symm)) (Below.heap_setCell _ _ _ _ (fun e => HGB.out.2 e.symm)) (fun x cur e he _ hx => Below.heap_setCell _ _ _ _ (fun e1 => by
      have h3 := HBX2.out
      unfold DecBox at h3
      rw [show x = g from e1, h3] at hx
      rcases he with rfl | rfl <;> simp at hx)), HD.out.gg, HD.out.gb, HD.out.gk, HD.out.of, HD.out.seed, HD.out.k1, HD.out.k2, HD.out.z1, HD.out.z2⟩
  · have hrk : rkP l K = rkP l K' := HAR.out
    clear hbx2
    go_wp2
    go_ret2
    exact ⟨rfl, DTouch.touch HT2.out, by rw [hrk] at HBX2; exact HBX2.out, HS2.out, HD.out.gg, HD.out.gb, HD.out.gk, HD.out.of, HD.out.seed, HD.out.k1, HD.out.k2, HD.out.z1, HD.out.z2⟩
  · have hrk : rkP l K = rkP l K' := HAR.out
    clear hbx2
    go_wp2
    go_ret2
    exact ⟨rfl, DTouch.touch HT2.out, by rw [hrk] at HBX2; exact HBX2.out, HS2.out, HD.out.gg, HD.out.gb, HD.out.gk, HD.out.of, HD.out.seed, HD.out.k1, HD.out.k2, HD.out.z1, HD.out.z2⟩
end Go.Proofs.YtkhdjjcflbdegaaGreatDoor
end

section
/- Package decode: Source. -/
namespace Go.Proofs.YtkhdjjcflbdegaaGreatDoor
open Go.RowKit Go.Extern.Stop Go.Stop Go.Extern

theorem rowE_cols (l p sd n : Nat) : colsTo (packR l (rowE l p sd n)) l = rowE l p sd n := by
  have hb : ∀ c, bitW (packR l (rowE l p sd n)) c = decide (c ∈ rowE l p sd n) := packR_bit rowE_lt
  unfold colsTo
  rw [show bitW (packR l (rowE l p sd n)) = fun c => decide (c ∈ rowE l p sd n) from funext hb]
  unfold rowE risN
  refine List.filter_congr fun c hc => ?_
  rw [decide_eq_decide, List.mem_filter, decide_eq_true_eq]
  exact ⟨fun h => h.2, fun h => ⟨hc, h⟩⟩
theorem Pick_rowE {w : World} (vw v : Value) (l p sd n size : Nat) (V : List (List Nat)) (hvw : ListAt wordV w vw (packR l (rowE l p sd n))) (h : MatAt byteV w v V) (hVl : V.length = l) (hl4 : l ≤ 4096) (h1 : 1 ≤ size) (h2 : size ≤ 64) (hr : ∀ r ∈ V, r.length = size ∧ Octets r) :
    Calls Tryz.prog 46 #[vw, v, .int .i64 (size : Int)] w fun e w' => ∃ v', e = .returned (.tuple #[v', .nilIface]) ∧ w'.ownsRow w.heap.size 5 1 v' size ((symE l p sd size V n).map byteV) ∧ Below w.heap.size w w' := by
  have hk := kOf_le hl4
  refine (Pick_ok vw v _ V size hvw (packR_word l _) (by rw [packR_len]; omega) h h1 h2 (fun r hr2 => (hr r hr2).1) (fun r hr2 => (hr r hr2).2)).mono ?_
  intro e w' hp
  unfold PickSays at hp
  rw [behindB_no (fun c hc => by
    rw [packR_bit rowE_lt, decide_eq_false_iff_not]
    intro hm
    have := rowE_lt (l := l) (p := p) (seed := sd) (e := n) c hm
    omega), if_neg (by decide), hVl] at hp
  unfold pickTo at hp
  rw [rowE_cols] at hp
  exact hp

/-- A slice of symbols of a call's own that is being filled. -/
structure SrcM (w : World) (base gs k j size : Nat) (F : Nat → List Nat) (vals : List Value) : Prop where
  own : w.ownsRow base 37 1 (.slice (some ⟨gs, 0, none⟩) k k) k vals
  row : ∀ i, i < j → w.ownsRow base 5 1 (vals.getD i nilS) size ((F i).map byteV)
section
variable {w w' : World} {base gs k j size : Nat} {F : Nat → List Nat} {vals : List Value}
theorem SrcM.mono (m : SrcM w base gs k j size F vals) (hb : Below w.heap.size w w') : SrcM w' base gs k j size F vals :=
  ⟨owns_kept m.own hb, fun i hi => owns_kept (m.row i hi) hb⟩
theorem SrcM.put (m : SrcM w base gs k j size F vals) (hj : j < k) {v : Value} (hv : w.ownsRow base 5 1 v size ((F j).map byteV)) : SrcM (w.setCell ⟨gs, j, none⟩ v) base gs k (j + 1) size F (vals.set j v) := by
  have hl := m.own.1
  obtain ⟨-, cur, hg⟩ := own_block m.own (g := gs) rfl
  refine ⟨(m.own.stored j v).1, fun i hi => ?_⟩
  rw [getD_set _ _ _ _ _ (by omega)]
  by_cases e : i = j
  · rw [if_pos e, e]
    exact own_set hv hg (by decide) j v
  · rw [if_neg e]
    exact own_set (m.row i (by omega)) hg (by decide) j v
theorem SrcM.mat (m : SrcM w base gs k k size F vals) : MatAt byteV w (.slice (some ⟨gs, 0, none⟩) k k) ((List.range k).map F) := by
  have hl := m.own.1
  refine ⟨vals, ListAt.of_owns (f := id) (n := k) (base := base) (e := 37) (by rw [List.map_id]; exact m.own), by simp; omega, fun i => ?_⟩
  rw [range_getD]
  by_cases hi : i < k
  · rw [if_pos hi]
    exact ListAt.of_owns (m.row i hi)
  · rw [if_neg hi, List.getD_eq_getElem?_getD, List.getElem?_eq_none (by omega)]
    exact ListAt.nil _ _
end

set_option maxRecDepth 1000000 in
theorem DeSrc_nil {w : World} : Calls Tryz.prog 22 #[nilP] w (NoSays 7 nameDeSource nilS w) := by
  go_enter Tryz.func22, Tryz.ntmps22
  go_wp2_with fail
  refine (New_ans nameDeSource 7 (by decide) _).mono ?_
  rintro e w1 ⟨E, rfl, hea, hb1⟩
  have HEA := Lib.hid hea
  have HB1 := Lib.hid hb1
  obtain ⟨u, x, rfl⟩ := hea.some (by decide)
  clear hea hb1
  go_wp2
  go_ret2
  exact ⟨_, rfl, HEA.out, HB1.out⟩

/-- The number's box. -/
theorem errno_laid (w : World) : ∃ W, W = w.alloc (.cells #[.int .i64 0] 83) ∧ Below w.heap.size w W ∧ W.heap[w.heap.size]? = some (.cells #[.int .i64 0] 83 (0, 0)) :=
  ⟨_, rfl, (Below.refl _ _).alloc (Nat.le_refl _) _, heap_alloc_new w _⟩

set_option maxRecDepth 1000000 in
set_option maxHeartbeats 4000000 in
/-- What layer 5 says of a clash, or of too few equations, is said here by its number. -/
theorem DeSrc_err {w : World} {g b k s h l p sd : Nat} {size lk : Int} (hx : DecBox w g k s h l p sd size b lk) (n : Int) (hn : n ≠ 0) (hg : Laid w)
    (hall : Calls Tryz.prog 45 #[sysP b] w fun e w' => ∃ E, e = .returned (.tuple #[nilS, E]) ∧ ErrAns n nameElAll w' E ∧ Below w.heap.size w w') :
    Calls Tryz.prog 22 #[.pointer (some ⟨g, 0, none⟩)] w (NoSays n nameDeSource nilS w) := by
  have HALL := Lib.hid hall
  have HG := Lib.hid hg
  have HN := Lib.hid hn
  obtain ⟨-, -, -, -, -, -, -, c7, -⟩ := hx.cells
  clear hall hg hx hn
  go_enter Tryz.func22, Tryz.ntmps22
  go_wp2_with fail
  refine HALL.out.mono ?_
  rintro e w1 ⟨E, rfl, hea, hb1⟩
  obtain ⟨ls, hch⟩ : ∃ ls, Chain w1 n (nameElAll :: ls) E := (hea.resolve_left (by rintro ⟨h, -⟩; exact HN.out h)).2
  obtain ⟨W, hW, hbW, hby⟩ := errno_laid w1
  have HW := Lib.hid hW
  have HB1 := Lib.hid (hb1.trans (hbW.mono hb1.size))
  have HAS := Lib.hid (As_num (w := W) n ⟨w1.heap.size, 0, none⟩ (.int .i64 0) E _ (hch.mono hbW) (cell_of_heap hby rfl) (frozen_of_heap hby) (HG.out.mono HB1.out))
  obtain ⟨u, x, rfl⟩ := hch.iface
  have hsz1 := hb1.size
  have HBY := Lib.hid hby
  clear hea hb1 hW hbW hch c7 hby
  go_wp2_with fail
  rw [← HW.out]
  refine HAS.out.mono ?_
  rintro e w2 ⟨rfl, w3, hb3, rfl⟩
  have hcell : (w3.setCell ⟨w1.heap.size, 0, none⟩ (.int .i64 n)).cell? ⟨w1.heap.size, 0, none⟩ = some (.int .i64 n) := by
    refine World.cell?_setCell_same' _ _ _ ?_
    rw [hb3.cell (p := ⟨w1.heap.size, 0, none⟩) (Array.getElem?_eq_some_iff.1 HBY.out).1, cell_of_heap HBY.out rfl]
    rfl
  have HB3 := Lib.hid ((HB1.out.trans (hb3.mono HB1.out.size)).setCell (p := ⟨w1.heap.size, 0, none⟩) hsz1 (.int .i64 n))
  generalize w1.heap.size = g1 at *
  generalize w3.setCell ⟨g1, 0, none⟩ (.int .i64 n) = w4 at *
  clear hb3
  go_wp2_with fail
  refine (New_ans nameDeSource n HN.out _).mono ?_
  rintro e w5 ⟨E, rfl, hea, hb5⟩
  have HEA := Lib.hid hea
  have HB5 := Lib.hid (HB3.out.trans (hb5.mono HB3.out.size))
  obtain ⟨u, x, rfl⟩ := hea.some HN.out
  clear hea hb5
  go_wp2
  go_ret2
  exact ⟨_, rfl, HEA.out, HB5.out⟩
theorem DeSrc_over {A : Nat → Prop} {w : World} {B g b kb k s h l p sd size : Nat} {K : List Vec} (d : DecAt A w B g b kb k s h l p sd size K true) (hg : Laid w) : Calls Tryz.prog 22 #[.pointer (some ⟨g, 0, none⟩)] w (NoSays 7 nameDeSource nilS w) :=
  DeSrc_err d.box 7 (by decide) hg (sysAll_over b l size K _ kb d.sys.sys)
theorem DeSrc_none {A : Nat → Prop} {w : World} {B g b kb k s h l p sd size : Nat} {K : List Vec} (d : DecAt A w B g b kb k s h l p sd size K false) (hr : rkP l K ≠ l) (hg : Laid w) : Calls Tryz.prog 22 #[.pointer (some ⟨g, 0, none⟩)] w (NoSays 4 nameDeSource nilS w) :=
  DeSrc_err d.box 4 (by decide) hg (sysAll_none b l size K _ kb d.sys.sys hr)

set_option maxRecDepth 1000000 in
set_option maxHeartbeats 4000000 in
theorem DeSrc_ok {A : Nat → Prop} {w : World} {B g b kb k s h l p sd size : Nat} {K : List Vec} (d : DecAt A w B g b kb k s h l p sd size K false) (hr : rkP l K = l) (hT : DgTab w) :
    Calls Tryz.prog 22 #[.pointer (some ⟨g, 0, none⟩)] w fun e w' => ∃ v V, e = .returned (.tuple #[v, .nilIface]) ∧ Tells l size K V ∧ MatAt byteV w' v ((List.range k).map (symE l p sd size V)) ∧ Below w.heap.size w w' := by
  obtain ⟨i0, hi, iz0, iz1, iz2⟩ := info_parts info_sym
  have HD := Lib.hid d
  have HT := Lib.hid hT
  have HALL := Lib.hid (sysAll_new b l size K kb (by have := d.sys.sys; rwa [hr] at this))
  have hk2 := d.k2
  have hl4 := d.sys.sys.base.2.2.2.2.1
  obtain ⟨c0, -, -, -, -, -, c6, c7, -⟩ := d.box.cells
  clear d hT
  go_enter Tryz.func22, Tryz.ntmps22
  go_wp2_with fail
  refine HALL.out.mono ?_
  rintro e w1 ⟨vm, V, rfl, hm, hVl, hvv, hb1⟩
  have HTE := Lib.hid (show Tells l size K V from ⟨hVl, hvv⟩)
  obtain ⟨W, hW, hbW, hby⟩ := errno_laid w1
  have HW := Lib.hid hW
  have HB1 := Lib.hid (hb1.trans (hbW.mono hb1.size))
  have HM1 := Lib.hid (hm.own.at.mono hbW)
  obtain ⟨am, cm, rfl, -, -, -⟩ := hm.own.at.opens
  have HVL := Lib.hid hVl
  rw [hVl] at HM1 ⊢
  obtain ⟨gn, hgn⟩ : ∃ gn, gn = w1.heap.size := ⟨_, rfl⟩
  clear hb1 hW hbW hby hm hVl hvv c0 c6 c7
  go_wp2_with fail
  rw [← HW.out, ← hgn]
  clear hgn
  refine (As_nil _ _).mono ?_
  rintro e w2 ⟨rfl, rfl⟩
  have hsz1 := HB1.out.size
  obtain ⟨c0, -, -, -, -, -, c6, c7, -⟩ := (HD.out.box.mono HB1.out).cells
  go_wp2_with (at_make; refine wpList_make_full _ rfl _ _ 46 rfl w.heap.size 37 i0 (.slice none 0 0) 1 Tryz.underlying46 hi iz0 iz1 .i64 .i64 _ _ k rfl rfl rfl rfl (by rw [iz2]; omega) (by unfold maxLen; omega) hsz1 ?_; intro w3 hown0 hgrow0; have HB3 := Lib.hid ((Below.refl W.heap.size W).grown hgrow0 (Nat.le_refl _) (fun k hk => by cases hk)); have hown1 := (by rw [Nat.mul_one] at hown0; exact toList_madeCells_one (.slice none 0 0) k ▸ hown0 : w3.ownsRow w.heap.size 37 1 (.slice (some ⟨W.heap.size, 0, none⟩) k k) k (List.replicate k (.slice none 0 0))); have HO3 : Hid (SrcM w3 w.heap.size W.heap.size k 0 size (symE l p sd size V) (List.replicate k (.slice none 0 0))) := Lib.hid ⟨hown1, fun i hi => absurd hi (Nat.not_lt_zero _)⟩; clear hown0 hgrow0 hown1)
  have hgs : w.heap.size ≤ W.heap.size := hsz1
  have HGS := Lib.hid hgs
  clear c0 c6 c7
  go_loopw [35] (fun i wr => ∃ (j : Nat) (vals : List Value), j ≤ k ∧ i = .int .i64 j ∧ SrcM wr w.heap.size W.heap.size k j size (symE l p sd size V) vals ∧ Below W.heap.size W wr) (fun i _ => k - (intOf i).toNat)
  case atStart => exact ⟨0, _, Nat.zero_le _, rfl, HO3.out, HB3.out⟩
  case round =>
    obtain ⟨j, vals, hj, rfl, hsm, hbel⟩ := hrel
    clear HO3
    have HSM := Lib.hid hsm
    have HBL := Lib.hid hbel
    have hbw := HB1.out.trans (hbel.mono hsz1)
    have HBW := Lib.hid hbw
    by_cases hlt : j < k
    · have HRW := Lib.hid (DeRow_ok (HD.out.box.mono hbw) HD.out.of HD.out.k1 HD.out.k2 HD.out.seed.1 j (by omega) (PairsAt.mono HT.out hbw))
      clear hsm hbel hbw
      go_wp2_with fail
      refine HRW.out.mono ?_
      rintro e w4 ⟨a4, q4, rfl, ho4, hb4⟩
      have hb04 := HBW.out.trans (hb4.mono HBW.out.size)
      have HB4 := Lib.hid hb04
      have HSM4 := Lib.hid (HSM.out.mono hb4)
      have HB4W := Lib.hid (HBL.out.trans (hb4.mono HBL.out.size))
      have HL4 : Hid (ListAt wordV w4 (.slice a4 (kOf l) q4) (packR l (rowE l p sd j))) := Lib.hid (ListAt.of_owns ho4)
      have HPK := Lib.hid (Pick_rowE (w := w4) _ _ l p sd j size V HL4.out (HM1.out.mono HB4W.out) HVL.out hl4 HD.out.z1 HD.out.z2 (fun r hr => HTE.out.row r hr))
      obtain ⟨-, -, -, -, -, -, e6, -, -⟩ := (HD.out.box.mono hb04).cells
      clear ho4 hb4 hb04
      go_wp2_with fail
      refine HPK.out.mono ?_
      rintro e w5 ⟨v5, rfl, ho5, hb5⟩
      have hsm5 := HSM4.out.mono hb5
      have hz4 := HB4.out.size
      have HSM5 := Lib.hid hsm5
      have HO5 := Lib.hid (ownsRow_base ho5 hz4)
      have HB5W := Lib.hid (HB4W.out.trans (hb5.mono HB4W.out.size))
      have hfz : w5.frozen? ⟨W.heap.size, j, none⟩ = false := hsm5.own.frozenAt j
      obtain ⟨yv, hyv⟩ : ∃ yv, w5.cell? ⟨W.heap.size, j, none⟩ = some yv := by
        have h1 := hsm5.own.1
        rw [hsm5.own.cellAt j (by omega)]
        exact ⟨_, List.getElem?_eq_getElem (by omega)⟩
      obtain ⟨a5, q5, rfl, -, -⟩ := own_open ho5
      clear ho5 hb5 hsm5 e6
      go_wp2_with fail
      go_roundw
      case rel => exact ⟨j + 1, vals.set j _, by omega, by go_num, HSM5.out.put hlt HO5.out, HB5W.out.setCell (p := ⟨W.heap.size, j, none⟩) (Nat.le_refl _) _⟩
      case measure => simp [intOf]; omega
    · obtain rfl : j = k := by omega
      clear hbel hbw
      go_wp2
      go_ret2
      exact ⟨_, V, rfl, HTE.out, HSM.out.mat, HBW.out⟩
end Go.Proofs.YtkhdjjcflbdegaaGreatDoor
end
