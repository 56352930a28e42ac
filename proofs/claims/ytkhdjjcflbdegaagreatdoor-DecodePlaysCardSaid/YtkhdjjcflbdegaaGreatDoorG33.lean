import Derived.Test.YtkhdjjcflbdegaaGreatDoorG32
import Derived.Test.YtkhdjjcflbdegaaGreatDoorG29
import Derived.Test.YtkhdjjcflbdegaaGreatDoorG28
import Derived.Deep.Cut
import Derived.Deep.CutBlock
import Derived.Deep.CutRange
import Derived.Deep.DeepCutAuto
import Derived.Deep.RegionHeld3

section
/- Package geyserref12: solve: the middle symbols, column by column. -/
namespace Go.Proofs.YtkhdjjcflbdegaaGreatDoor
open Go.RowKit Go.Extern.Stop Go.Stop Go.Extern

/-! ### the mathematics -/
def lnV (q : Ln) : Vec := lineV q.1 q.2
def lnsV (L : List Ln) : List Vec := L.map lnV
def LnOk (n size : Nat) (L : List Ln) : Prop := ∀ j, j < L.length → (L.getD j noLn).1.length = n ∧ (L.getD j noLn).2.length = size ∧ Octets (L.getD j noLn).2
theorem lnsV_length (L : List Ln) : (lnsV L).length = L.length := by simp [lnsV]
theorem lnV_no : lnV noLn = vzero := funext fun _ => lineV_out (Nat.zero_le _)
theorem lnsV_getD (L : List Ln) (j : Nat) : (lnsV L).getD j vzero = lnV (L.getD j noLn) := by
  unfold lnsV
  by_cases h : j < L.length
  · simp [List.getD_eq_getElem?_getD, h]
  · rw [List.getD_eq_getElem?_getD, List.getElem?_eq_none (by rw [List.length_map]; omega), List.getD_eq_getElem?_getD, List.getElem?_eq_none (by omega)]
    exact lnV_no.symm
/-- Is the truth of a column true? -/
def lbit (L : List Ln) (j c : Nat) : Bool := (L.getD j noLn).1.getD c false
theorem lbit_eq {L : List Ln} {n size j c : Nat} (h : LnOk n size L) (hj : j < L.length) (hc : c < n) : (lnsV L).getD j vzero c = lbit L j c := by
  rw [lnsV_getD]
  exact lineV_row (by rw [(h j hj).1]; exact hc)
def swL (L : List Ln) (c i : Nat) : List Ln := (L.set c (L.getD i noLn)).set i (L.getD c noLn)
theorem swL_length (L : List Ln) (c i : Nat) : (swL L c i).length = L.length := by simp [swL]
theorem swL_getD {L : List Ln} {c i k : Nat} (hc : c < L.length) (hi : i < L.length) : (swL L c i).getD k noLn = if k = i then L.getD c noLn else if k = c then L.getD i noLn else L.getD k noLn := by
  unfold swL
  rw [getD_set _ _ _ _ _ (by simp; omega), getD_set _ _ _ _ _ hc]
theorem swL_ok {L : List Ln} {n size c i : Nat} (h : LnOk n size L) (hc : c < L.length) (hi : i < L.length) : LnOk n size (swL L c i) := fun k hk => by
  rw [swL_length] at hk
  rw [swL_getD hc hi]
  split
  · exact h c hc
  · split
    · exact h i hi
    · exact h k hk
def clLn (L : List Ln) (c j : Nat) : Ln := if j ≠ c ∧ lbit L j c = true then (sumB (L.getD j noLn).1 (L.getD c noLn).1, xorW (L.getD j noLn).2 (L.getD c noLn).2) else L.getD j noLn
theorem clLn_self (L : List Ln) (c : Nat) : clLn L c c = L.getD c noLn := if_neg (fun h => h.1 rfl)
def clL (L : List Ln) (c i : Nat) : List Ln := (List.range L.length).map fun j => if j < i then clLn L c j else L.getD j noLn
theorem clL_length (L : List Ln) (c i : Nat) : (clL L c i).length = L.length := by simp [clL]
theorem clL_getD {L : List Ln} {c i j : Nat} (h : j < L.length) : (clL L c i).getD j noLn = if j < i then clLn L c j else L.getD j noLn := by
  unfold clL; rw [range_getD, if_pos h]
theorem clL_zero (L : List Ln) (c : Nat) : clL L c 0 = L := by
  apply List.ext_getElem (by rw [clL_length])
  intro j h1 h2
  have := clL_getD (c := c) (i := 0) h2
  rw [if_neg (by omega), List.getD_eq_getElem?_getD, List.getElem?_eq_getElem h1, List.getD_eq_getElem?_getD, List.getElem?_eq_getElem h2] at this
  exact this
theorem clL_set {L : List Ln} {c i : Nat} : (clL L c i).set i (clLn L c i) = clL L c (i + 1) := by
  unfold clL
  apply List.ext_getElem (by simp)
  intro j h1 h2
  simp only [List.getElem_set, List.getElem_map, List.getElem_range]
  by_cases e : i = j
  · subst e; rw [if_pos rfl, if_pos (by omega)]
  · rw [if_neg e]
    by_cases hj : j < i
    · rw [if_pos hj, if_pos (by omega)]
    · rw [if_neg hj, if_neg (by omega)]
theorem clL_same {L : List Ln} {c i : Nat} (h : i < L.length) (hs : clLn L c i = L.getD i noLn) : clL L c (i + 1) = clL L c i := by
  rw [← clL_set, hs]
  apply List.ext_getElem (by rw [List.length_set])
  intro j h1 h2
  rw [List.getElem_set]
  by_cases e : i = j
  · subst e
    have := clL_getD (c := c) (i := i) h
    rw [if_neg (by omega), List.getD_eq_getElem?_getD, List.getElem?_eq_getElem h2] at this
    rw [if_pos rfl]
    exact this.symm
  · rw [if_neg e]
theorem clL_at {L : List Ln} {c i : Nat} (h : i < L.length) : (clL L c i).getD i noLn = L.getD i noLn := by rw [clL_getD h, if_neg (by omega)]
theorem clL_col {L : List Ln} {c i : Nat} (h : c < L.length) : (clL L c i).getD c noLn = L.getD c noLn := by
  rw [clL_getD h, clLn_self]
  split <;> rfl
theorem clL_ok {L : List Ln} {n size c i : Nat} (h : LnOk n size L) (hc : c < L.length) : LnOk n size (clL L c i) := fun k hk => by
  rw [clL_length] at hk
  rw [clL_getD hk]
  have h1 := h k hk
  have h2 := h c hc
  split
  · unfold clLn
    split
    · exact ⟨by rw [sumB_length]; exact h1.1, by rw [xorW_length (by rw [h1.2.1, h2.2.1])]; exact h1.2.1, xorW_byte h1.2.2 h2.2.2⟩
    · exact h1
  · exact h1
theorem bool_get (R : List Bool) {c : Nat} (h : c < R.length) : boolV R[c] = .bool (R.getD c false) := by simp [boolV, List.getD_eq_getElem?_getD, h]
/-- The frame of the outer loop. -/
structure GE (n size : Nat) (K : List Vec) (L : List Ln) (c : Nat) : Prop where
  len : L.length = n
  ok : LnOk n size L
  gi : GI (lnsV L) c c (fun j => j)
  eq : SpEq (lnsV L) K
theorem GE.pivot {n size c : Nat} {K : List Vec} {L : List Ln} (h : GE n size K L c) (hc : c < n) (hv : ∃ v, ValV n K c v) : ∃ i, c ≤ i ∧ i < n ∧ lbit L i c = true := by
  obtain ⟨i, h1, h2, h3⟩ := pivot_ex h.gi hc (val_ex h.eq hv)
  rw [lnsV_length, h.len] at h2
  rw [lbit_eq h.ok (by rw [h.len]; exact h2) hc] at h3
  exact ⟨i, h1, h2, h3⟩
theorem GE.step {n size c i : Nat} {K : List Vec} {L : List Ln} (h : GE n size K L c) (hi : c ≤ i) (hin : i < n) (hb : lbit L i c = true) : GE n size K (clL (swL L c i) c n) (c + 1) := by
  have hcl : c < L.length := by rw [h.len]; omega
  have hil : i < L.length := by rw [h.len]; exact hin
  have hso := swL_ok h.ok hcl hil
  have hsl := swL_length L c i
  have hs : ∀ j, swf (lnsV L) c i j = lnV ((swL L c i).getD j noLn) := fun j => by
    rw [swL_getD hcl hil]
    unfold swf
    rw [lnsV_getD, lnsV_getD, lnsV_getD]
    split
    · rfl
    · split <;> rfl
  have hlen : (lnsV (clL (swL L c i) c n)).length = (lnsV L).length := by rw [lnsV_length, clL_length, hsl, lnsV_length]
  have hbit : (lnsV L).getD i vzero c = true := by rw [lbit_eq h.ok hil (by omega)]; exact hb
  have hR : ∀ k, k < (lnsV L).length → (lnsV (clL (swL L c i) c n)).getD k vzero = clf (swf (lnsV L) c i) c c k := fun k hk => by
    rw [lnsV_length] at hk
    have hks : k < (swL L c i).length := by rw [hsl]; exact hk
    have hcs : c < (swL L c i).length := by rw [hsl]; exact hcl
    rw [lnsV_getD, clL_getD hks, if_pos (by rw [h.len] at hk; exact hk)]
    unfold clf clLn
    rw [hs k, hs c]
    have e : lnV ((swL L c i).getD k noLn) c = lbit (swL L c i) k c := by
      have := lbit_eq hso hks (show c < n by omega)
      rwa [lnsV_getD] at this
    rw [e]
    by_cases hk2 : k ≠ c ∧ lbit (swL L c i) k c = true
    · rw [if_pos hk2, if_pos hk2]
      exact lineV_add (by rw [(hso k hks).1, (hso c hcs).1]) (by rw [(hso k hks).2.1, (hso c hcs).2.1])
    · rw [if_neg hk2, if_neg hk2]
  exact ⟨by rw [clL_length, hsl]; exact h.len, clL_ok hso (by rw [hsl]; exact hcl), h.gi.next hi (by rw [lnsV_length]; exact hil) hbit hlen hR, (gauss_span hi (by rw [lnsV_length]; exact hil) hlen hR).trans h.eq⟩
theorem GE.done {n size : Nat} {K : List Vec} {L : List Ln} (h : GE n size K L n) : Tells n size K (L.map (·.2)) := by
  have := h.gi.all (size := size) (by rw [lnsV_length]; exact h.len) h.eq
  refine (show L.map (·.2) = (List.range n).map fun c => symV n size ((lnsV L).getD c vzero) from ?_) ▸ this
  apply List.ext_getElem (by simp [h.len])
  intro j h1 h2
  have hj : j < L.length := by simpa using h1
  have ho := h.ok j hj
  rw [List.getElem_map, List.getElem_map, List.getElem_range, lnsV_getD]
  have e : L.getD j noLn = L[j] := by simp [List.getD_eq_getElem?_getD, hj]
  rw [e] at ho ⊢
  have := symV_line (n := n) (r := L[j].1) (s := L[j].2) ho.1 ho.2.2
  rw [ho.2.1] at this
  exact this.symm

set_option maxRecDepth 1000000 in
set_option maxHeartbeats 4000000 in
theorem solve_any {w : World} (v : Value) (L0 : List Ln) (n size : Nat) (hv : LnsAt w v L0) (hl : L0.length = n) (hok : LnOk n size L0) (hn1 : 1 ≤ n) (hn : n ≤ 4096) (hz : size ≤ 1000) (hval : ∀ c, c < n → ∃ x, ValV n (lnsV L0) c x) :
    Calls Tryz.prog 49 #[v, .int .i64 (n : Int)] w fun e w' => ∃ v' V, e = .returned v' ∧ MatAt byteV w' v' V ∧ Tells n size (lnsV L0) V ∧ Below w.heap.size w w' := by
  obtain ⟨i0, hi, hz0, hz1, hz2⟩ := info_parts info_line
  obtain ⟨j0, hj0, jz0, jz1, jz2⟩ := info_parts info_sym
  have HV := Lib.hid hv
  have HVAL := Lib.hid hval
  have HG0 : Hid (GE n size (lnsV L0) L0 0) := Lib.hid ⟨hl, hok, GI.start _ _, SpEq.refl _⟩
  generalize lnsV L0 = K at *
  obtain ⟨av, cv, rfl, -, -, -⟩ := hv.opens
  rw [hl] at HV ⊢
  clear hv hok hval hl
  go_enter Tryz.func49, Tryz.ntmps49
  go_wp2_with fail
  go_loopw [0, 5] (fun v i wr => ∃ (c : Nat) (L : List Ln), c ≤ n ∧ i = .int .i64 c ∧ LnsAt wr v L ∧ GE n size K L c ∧ Below w.heap.size w wr) (fun _ i _ => n - (intOf i).toNat)
  case atStart => exact ⟨0, _, Nat.zero_le _, rfl, HV.out, HG0.out, Below.refl _ _⟩
  case round =>
    obtain ⟨c, L, hc, rfl, hM, hG, hbel⟩ := hrel
    obtain ⟨wo, hwo⟩ : ∃ wo, wo = wr := ⟨_, rfl⟩
    subst hwo
    have HM := Lib.hid hM
    have HG := Lib.hid hG
    have HB := Lib.hid hbel
    have HL := Lib.hid hG.len
    have hsz := hbel.size
    by_cases hlt : c < n
    · have HPI : Hid (∃ i, c ≤ i ∧ i < n ∧ lbit L i c = true) := Lib.hid (hG.pivot hlt (HVAL.out c hlt))
      obtain ⟨a, cap, rfl, -, -, hcell⟩ := hM.opens
      rw [hG.len] at HM hcell ⊢
      obtain ⟨b, off, rfl, hcc⟩ := hcell (by omega)
      have hbl : b < wo.heap.size := by
        obtain ⟨r, s, c1, -⟩ := hcc 0 (by omega)
        exact World.block_lt_of_cell? wo _ c1
      have HC : Hid (∀ j, j < n → ∃ b2 o2 c2 y, wo.cell? ⟨b, off + j * 2, none⟩ = some (.slice (some ⟨b2, o2, none⟩) n c2) ∧ wo.cell? ⟨b, off + j * 2 + 1, none⟩ = some y ∧ wo.cell? ⟨b2, o2 + c, none⟩ = some (.bool (lbit L j c)) ∧ ListAt boolV wo (.slice (some ⟨b2, o2, none⟩) n c2) (L.getD j noLn).1 ∧ ListAt byteV wo y (L.getD j noLn).2) := Lib.hid fun j hj => by
        obtain ⟨r, s, c1, c2, l1, l2⟩ := hcc j hj
        have hlr := (hG.ok j (by rw [hG.len]; exact hj)).1
        have l1' := l1
        obtain ⟨ar, cr, rfl, -, -, hrc⟩ := l1
        obtain ⟨b2, o2, rfl, hr2⟩ := hrc (by omega)
        have hb2 := hr2 c (by omega)
        rw [hlr] at c1 l1'
        refine ⟨b2, o2, cr, s, c1, c2, ?_, l1', l2⟩
        rw [hb2]
        exact congrArg some (bool_get _ (by omega))
      clear hM hG hbel hcell hcc
      go_upto_block 2 with fail
      go_cut [6] from 17 to 33 (fun a wx => ∃ t : Nat, c ≤ t ∧ t < n ∧ a = .int .i64 t ∧ lbit L t c = true ∧ wo = wx)
      case first =>
        go_wp2_with fail
        go_loopw [6] (fun i wx => ∃ t : Nat, c ≤ t ∧ t < n ∧ i = .int .i64 t ∧ (∀ j, c ≤ j → j < t → lbit L j c = false) ∧ wo = wx) (fun i _ => n - (intOf i).toNat)
        case atStart => exact ⟨c, Nat.le_refl _, hlt, rfl, fun j h1 h2 => by omega, rfl⟩
        case round =>
          obtain ⟨t, ht1, ht2, rfl, hz, rfl⟩ := hrel
          have HZ := Lib.hid hz
          obtain ⟨b2, o2, c2, y, k1, k2, k3, -, -⟩ := HC.out t ht2
          clear hz
          have hw1 : IntKind.i64.wrap ((n : Int) - 1) = (n : Int) - 1 := IntWalk.i64_in _ (by omega)
          by_cases hlast : t + 1 = n
          · have HBT : Hid (lbit L t c = true) := Lib.hid (by
              obtain ⟨i, h1, h2, h3⟩ := HPI.out
              by_cases e : i = t
              · rw [← e]; exact h3
              · rw [HZ.out i h1 (by omega)] at h3; cases h3)
            have d : decide ((t : Int) < (n : Int) - 1) = false := decide_eq_false (by omega)
            clear k1 k2 k3
            go_wp2_with fail
            go_meet
            case rel => exact ⟨t, ht1, ht2, rfl, HBT.out, rfl⟩
          · have d : decide ((t : Int) < (n : Int) - 1) = true := decide_eq_true (by omega)
            have HNX : Hid (∀ bt, lbit L t c = bt → bt = false → ∀ j, c ≤ j → j < t + 1 → lbit L j c = false) := Lib.hid fun bt e1 e2 j h1 h2 => by
              by_cases e : j = t
              · rw [e, e1, e2]
              · exact HZ.out j h1 (by omega)
            have HBQ : Hid (∀ bt, lbit L t c = bt → bt = true → lbit L t c = true) := Lib.hid fun bt e1 e2 => e1.trans e2
            obtain ⟨bt, hbt⟩ : ∃ bt, lbit L t c = bt := ⟨_, rfl⟩
            have HN1 := Lib.hid (HNX.out bt hbt)
            have HB1 := Lib.hid (HBQ.out bt hbt)
            rw [hbt] at k3
            clear hbt HNX HBQ
            cases bt with
            | true =>
              go_wp2_with fail
              go_meet
              case rel => exact ⟨t, ht1, ht2, rfl, HB1.out (by trivial), rfl⟩
            | false =>
              go_wp2_with fail
              go_roundw
              case rel => exact ⟨t + 1, by omega, by omega, by go_num, HN1.out (by trivial), trivial⟩
              case measure => simp [intOf]; omega
      case rest =>
        obtain ⟨t, ht1, ht2, rfl, hbt, rfl⟩ := hcut
        have HST := Lib.hid (HG.out.step ht1 ht2 hbt)
        obtain ⟨bt, ot, ct, yt, k1, k2, -, k4, k5⟩ := HC.out t ht2
        obtain ⟨bc, oc, cc, yc, m1, m2, -, m4, m5⟩ := HC.out c hlt
        have hkt := HG.out.ok t (by rw [HL.out]; exact ht2)
        have hkc := HG.out.ok c (by rw [HL.out]; exact hlt)
        obtain ⟨at1, ct1, rfl, -, -, -⟩ := id (k5.bytes size hkt.2.1)
        obtain ⟨ac1, cc1, rfl, -, -, -⟩ := id (m5.bytes size hkc.2.1)
        have HK4 := Lib.hid k4
        have HK5 := Lib.hid k5
        have HM4 := Lib.hid m4
        have HM5 := Lib.hid m5
        have HBA := Lib.hid ((Below.refl wo.heap.size wo).alloc (Nat.le_refl _) (.cells #[] 160))
        have HOA := Lib.hid (World.ownsRow_made (base := wo.heap.size) (e := 160) (size := 2) wo #[] 0 (Nat.le_refl _) (by decide) rfl)
        clear k4 k5 m4 m5 hbt hkt hkc
        go_upto_region 8 with (at_builtin; go_loud (refine wpList_append_lns _ rfl (.tmp 34) (.tmp 35) 104 rfl wo.heap.size i0 _ 48 Tryz.underlying104 hi hz0 hz1 hz2 rfl _ rfl HOA.out _ L rfl wo HBA.out rfl HM.out (by rw [HL.out]; unfold maxLen; omega) (by rw [HL.out]; omega) ?_); intro v1 w1 ho1 hg1; have HB1 := Lib.hid (HBA.out.grown hg1 (by simp) (fun k hk => (HOA.out.lt k hk).1)); have HO1 := Lib.hid ho1; obtain ⟨g, cp, rfl, hgb, ⟨p0, p1, hp0, hp1, -, -⟩, hfr, -⟩ := ho1.row (c := c) (by rw [HL.out]; exact hlt); rw [HL.out] at HO1 ⊢; clear ho1 hg1)
        have k1' := (HB1.out.cell (p := ⟨b, off + t * 2, none⟩) hbl).trans k1
        have k2' := (HB1.out.cell (p := ⟨b, off + t * 2 + 1, none⟩) hbl).trans k2
        have hf0 := hfr (c * 2)
        have hf1 := hfr (c * 2 + 1)
        clear hfr
        go_upto_region 9 with fail
        have HO2 : Hid (LnsOwn wo.heap.size ((w1.setCell ⟨g, c * 2, none⟩ (.slice (some ⟨bt, ot, none⟩) n ct)).setCell ⟨g, c * 2 + 1, none⟩ (.slice at1 size ct1)) (.slice (some ⟨g, 0, none⟩) n cp) (L.set c (L.getD t noLn))) := Lib.hid (by
          obtain ⟨g', cp', he, -, -, -, hst⟩ := HO1.out.row (c := c) (by rw [HL.out]; exact hlt)
          obtain ⟨rfl, -, rfl⟩ : g = g' ∧ n = L.length ∧ cp = cp' := by simpa using he
          exact hst _ _ (L.getD t noLn) (ElAt.old HK4.out HB1.out) (ElAt.old HK5.out HB1.out))
        have HB2 := Lib.hid ((HB1.out.setCell (p := ⟨g, c * 2, none⟩) hgb (.slice (some ⟨bt, ot, none⟩) n ct)).setCell (p := ⟨g, c * 2 + 1, none⟩) hgb (.slice at1 size ct1))
        obtain ⟨w2, hw2⟩ : ∃ w2, w2 = (w1.setCell ⟨g, c * 2, none⟩ (.slice (some ⟨bt, ot, none⟩) n ct)).setCell ⟨g, c * 2 + 1, none⟩ (.slice at1 size ct1) := ⟨_, rfl⟩
        rw [← hw2] at HO2 HB2 ⊢
        clear hw2 k1' k2' hp0 hp1 hf0 hf1 HO1
        have hsl : (L.set c (L.getD t noLn)).length = n := by rw [List.length_set, HL.out]
        have HSL := Lib.hid hsl
        obtain ⟨⟨q0, q1, hq0, hq1⟩, hfr⟩ : (∃ q0 q1, w2.cell? ⟨g, t * 2, none⟩ = some q0 ∧ w2.cell? ⟨g, t * 2 + 1, none⟩ = some q1) ∧ ∀ k, w2.frozen? ⟨g, k, none⟩ = false := by
          obtain ⟨g', cp', he, -, ⟨q0, q1, h1, h2, -, -⟩, h3, -⟩ := HO2.out.row (c := t) (by rw [hsl]; exact ht2)
          obtain ⟨rfl, -, rfl⟩ : g = g' ∧ n = (L.set c (L.getD t noLn)).length ∧ cp = cp' := by simpa using he
          exact ⟨⟨q0, q1, h1, h2⟩, h3⟩
        have m1' := (HB2.out.cell (p := ⟨b, off + c * 2, none⟩) hbl).trans m1
        have m2' := (HB2.out.cell (p := ⟨b, off + c * 2 + 1, none⟩) hbl).trans m2
        have hf0 := hfr (t * 2)
        have hf1 := hfr (t * 2 + 1)
        clear hfr hsl
        go_upto_region 10 with fail
        have HO3 : Hid (LnsOwn wo.heap.size ((w2.setCell ⟨g, t * 2, none⟩ (.slice (some ⟨bc, oc, none⟩) n cc)).setCell ⟨g, t * 2 + 1, none⟩ (.slice ac1 size cc1)) (.slice (some ⟨g, 0, none⟩) n cp) (swL L c t)) := Lib.hid (by
          obtain ⟨g', cp', he, -, -, -, hst⟩ := HO2.out.row (c := t) (by rw [HSL.out]; exact ht2)
          obtain ⟨rfl, -, rfl⟩ : g = g' ∧ n = (L.set c (L.getD t noLn)).length ∧ cp = cp' := by simpa using he
          exact hst _ _ (L.getD c noLn) (ElAt.old HM4.out HB2.out) (ElAt.old HM5.out HB2.out))
        have HB3 := Lib.hid ((HB2.out.setCell (p := ⟨g, t * 2, none⟩) hgb (.slice (some ⟨bc, oc, none⟩) n cc)).setCell (p := ⟨g, t * 2 + 1, none⟩) hgb (.slice ac1 size cc1))
        obtain ⟨w3, hw3⟩ : ∃ w3, w3 = (w2.setCell ⟨g, t * 2, none⟩ (.slice (some ⟨bc, oc, none⟩) n cc)).setCell ⟨g, t * 2 + 1, none⟩ (.slice ac1 size cc1) := ⟨_, rfl⟩
        rw [← hw3] at HO3 HB3 ⊢
        have HSO := Lib.hid (swL_ok HG.out.ok (c := c) (i := t) (by rw [HL.out]; exact hlt) (by rw [HL.out]; exact ht2))
        have HSN : Hid ((swL L c t).length = n) := Lib.hid (by rw [swL_length]; exact HL.out)
        clear hw3 m1' m2' hq0 hq1 hf0 hf1 HO2 k1 k2 m1 m2 HC HPI HK4 HK5 HM4 HM5 HB1 HB2
        generalize swL L c t = S at *
        go_wp2_with fail
        go_loopw [8] (fun i wr => ∃ j : Nat, j ≤ n ∧ i = .int .i64 j ∧ LnsOwn wo.heap.size wr (.slice (some ⟨g, 0, none⟩) n cp) (clL S c j) ∧ Below wo.heap.size wo wr) (fun i _ => n - (intOf i).toNat)
        case atStart => exact ⟨0, Nat.zero_le _, rfl, by rw [clL_zero]; exact HO3.out, HB3.out⟩
        case round =>
          obtain ⟨j, hj, rfl, ho, hb⟩ := hrel
          have HO := Lib.hid ho
          have HBR := Lib.hid hb
          by_cases hjn : j < n
          · obtain ⟨⟨r0, r1, hr0, hr1, hr2, hr3⟩, ⟨d0, d1, hd0, hd1, hd2, hd3⟩, hfr, hst⟩ : (∃ r s, wr.cell? ⟨g, j * 2, none⟩ = some r ∧ wr.cell? ⟨g, j * 2 + 1, none⟩ = some s ∧ ElAt boolV 4 wo.heap.size wr r (S.getD j noLn).1 ∧ ElAt byteV 5 wo.heap.size wr s (S.getD j noLn).2) ∧
                (∃ r s, wr.cell? ⟨g, c * 2, none⟩ = some r ∧ wr.cell? ⟨g, c * 2 + 1, none⟩ = some s ∧ ElAt boolV 4 wo.heap.size wr r (S.getD c noLn).1 ∧ ElAt byteV 5 wo.heap.size wr s (S.getD c noLn).2) ∧ (∀ k, wr.frozen? ⟨g, k, none⟩ = false) ∧
                ∀ w4, Below wr.heap.size wr w4 → ∀ r s (q : Ln), ElAt boolV 4 wo.heap.size w4 r q.1 → ElAt byteV 5 wo.heap.size w4 s q.2 → LnsOwn wo.heap.size ((w4.setCell ⟨g, j * 2, none⟩ r).setCell ⟨g, j * 2 + 1, none⟩ s) (.slice (some ⟨g, 0, none⟩) n cp) ((clL S c j).set j q) := by
              have hcl : (clL S c j).length = n := by rw [clL_length, HSN.out]
              obtain ⟨g', cp', he, -, h1, h2, -⟩ := ho.row (c := j) (by omega)
              obtain ⟨rfl, -, rfl⟩ : g = g' ∧ n = (clL S c j).length ∧ cp = cp' := by simpa using he
              obtain ⟨g', cp', he, -, h3, -, -⟩ := ho.row (c := c) (by omega)
              obtain ⟨rfl, -, -⟩ : g = g' ∧ n = (clL S c j).length ∧ cp = cp' := by simpa using he
              rw [clL_at (by rw [HSN.out]; exact hjn)] at h1
              rw [clL_col (by rw [HSN.out]; exact hlt)] at h3
              refine ⟨h1, h3, h2, fun w4 hb4 r s q hr hs => ?_⟩
              obtain ⟨g', cp', he, -, -, -, hst⟩ := (ho.mono hb4).row (c := j) (by omega)
              obtain ⟨rfl, -, -⟩ : g = g' ∧ n = (clL S c j).length ∧ cp = cp' := by simpa using he
              exact hst r s q hr hs
            have hok := HSO.out j (by rw [HSN.out]; exact hjn)
            have hoc := HSO.out c (by rw [HSN.out]; exact hlt)
            have hr2' := hr2.1
            have hd2' := hd2.1
            obtain ⟨ra, rc, rfl, -, -, hrc⟩ := id hr2.1
            rw [hok.1] at hr0 hr2'
            rw [hok.1] at hr2
            obtain ⟨rb, ro, rfl, hrcc⟩ := hrc (by omega)
            have hbit : wr.cell? ⟨rb, ro + c, none⟩ = some (.bool (lbit S j c)) := (hrcc c (by omega)).trans (congrArg some (bool_get _ (by omega)))
            obtain ⟨sa, sc, rfl, -, -, -⟩ := id (hr3.1.bytes size hok.2.1)
            obtain ⟨da, dc, rfl, -, -, -⟩ := id hd2.1
            rw [hoc.1] at hd0 hd2'
            obtain ⟨ea, ec, rfl, -, -, -⟩ := id (hd3.1.bytes size hoc.2.1)
            have HSM := Lib.hid (fun h => clL_same (c := c) (i := j) (L := S) (by rw [HSN.out]; exact hjn) h)
            have HSE := Lib.hid (clL_set (c := c) (i := j) (L := S))
            have HAD := Lib.hid (lnadd_any (w := wr.drew) (.slice (some ⟨rb, ro, none⟩) n rc) (.slice sa size sc) (.slice da n dc) (.slice ea size ec) (S.getD j noLn).1 (S.getD c noLn).1 (S.getD j noLn).2 (S.getD c noLn).2 n size (hr2'.mono (Below.refl _ _).drew) (hd2'.mono (Below.refl _ _).drew) (hr3.1.mono (Below.refl _ _).drew) (hd3.1.mono (Below.refl _ _).drew) hok.1 hoc.1 hok.2 hoc.2 hn hz)
            have HST2 := Lib.hid hst
            have HFR := Lib.hid hfr
            have HBD : Hid (Below wr.heap.size wr wr.drew) := Lib.hid (Below.refl _ _).drew
            have hgl : g < wr.heap.size := World.block_lt_of_cell? wr _ hr0
            clear ho hb hok hoc hr2 hr3 hd2 hd3 hr2' hd2' hrc hrcc hst hfr
            by_cases hjc : j = c
            · have HS2 := Lib.hid (HSM.out (by rw [hjc]; exact clLn_self S c))
              have hq : ((j : Int) != (c : Int)) = false := by rw [bne_eq_false_iff_eq]; omega
              clear HSM HSE HAD hbit hr0 hr1 hd0 hd1
              go_wp2_with fail
              go_roundw
              case rel => exact ⟨j + 1, by omega, by go_num, by rw [HS2.out]; exact HO.out, HBR.out⟩
              case measure => simp [intOf]; omega
            · have hq : ((j : Int) != (c : Int)) = true := by rw [bne_iff_ne]; omega
              cases hbt : lbit S j c with
              | false =>
                have HS2 := Lib.hid (HSM.out (if_neg (by rw [hbt]; simp)))
                rw [hbt] at hbit
                clear HSM HSE HAD hr1 hd0 hd1 hbt
                go_wp2_with fail
                go_roundw
                case rel => exact ⟨j + 1, by omega, by go_num, by rw [HS2.out]; exact HO.out, HBR.out⟩
                case measure => simp [intOf]; omega
              | true =>
                have HCL : Hid (clLn S c j = (sumB (S.getD j noLn).1 (S.getD c noLn).1, xorW (S.getD j noLn).2 (S.getD c noLn).2)) := Lib.hid (if_pos ⟨hjc, hbt⟩)
                rw [hbt] at hbit
                have HSLEN : Hid ((sumB (S.getD j noLn).1 (S.getD c noLn).1).length = n) := Lib.hid (by rw [sumB_length]; exact (HSO.out j (by rw [HSN.out]; exact hjn)).1)
                have HXLEN : Hid ((xorW (S.getD j noLn).2 (S.getD c noLn).2).length = size) := Lib.hid (by
                  have h1 := (HSO.out j (by rw [HSN.out]; exact hjn)).2.1
                  have h2 := (HSO.out c (by rw [HSN.out]; exact hlt)).2.1
                  rw [xorW_length (by rw [h1, h2]), h1])
                have HSAT : Hid (∀ V, Below wr.heap.size wr V → (V.cell? ⟨g, j * 2, none⟩ = some (.slice (some ⟨rb, ro, none⟩) n rc) ∧ V.cell? ⟨g, j * 2 + 1, none⟩ = some (.slice sa size sc)) ∧ (V.cell? ⟨g, c * 2, none⟩ = some (.slice da n dc) ∧ V.cell? ⟨g, c * 2 + 1, none⟩ = some (.slice ea size ec)) ∧ V.frozen? ⟨g, j * 2, none⟩ = false ∧ V.frozen? ⟨g, j * 2 + 1, none⟩ = false) := Lib.hid fun V hV =>
                  ⟨⟨(hV.cell (p := ⟨g, j * 2, none⟩) hgl).trans hr0, (hV.cell (p := ⟨g, j * 2 + 1, none⟩) hgl).trans hr1⟩, ⟨(hV.cell (p := ⟨g, c * 2, none⟩) hgl).trans hd0, (hV.cell (p := ⟨g, c * 2 + 1, none⟩) hgl).trans hd1⟩, (hV.frozen (p := ⟨g, j * 2, none⟩) hgl).trans (HFR.out _), (hV.frozen (p := ⟨g, j * 2 + 1, none⟩) hgl).trans (HFR.out _)⟩
                have HSD0 := Lib.hid (HSAT.out wr.drew HBD.out)
                generalize sumB (S.getD j noLn).1 (S.getD c noLn).1 = SB at *
                generalize xorW (S.getD j noLn).2 (S.getD c noLn).2 = XB at *
                clear HSM hbt
                go_wp2_with fail
                obtain ⟨⟨hr0, hr1⟩, ⟨hd0, hd1⟩, hf0, hf1⟩ := HSD0.out
                go_region_law (first
                  | (go_simp; go_at_call 93; (with_reducible refine HAD.out.mono ?_); rintro e w4 ⟨v4, v5, rfl, ho4, ho5, hb4⟩; have HB4 := Lib.hid (HBD.out.trans (hb4.mono HBD.out.size)); have HO4 := Lib.hid ho4; have HO5 := Lib.hid ho5; obtain ⟨x4, y4, rfl, -, -⟩ := own_open ho4; obtain ⟨x5, y5, rfl, -, -⟩ := own_open ho5; obtain ⟨⟨gr0, gr1⟩, ⟨gd0, gd1⟩, gf0, gf1⟩ := HSAT.out _ HB4.out; clear ho4 ho5 hb4))
                all_goals go_wp2
                all_goals
                  refine ⟨⟨j + 1, by omega, by go_num, ?_, ((HBR.out.trans (HB4.out.mono HBR.out.size)).setCell (p := ⟨g, j * 2, none⟩) hgb _).setCell (p := ⟨g, j * 2 + 1, none⟩) hgb _⟩, by simp [intOf]; omega⟩
                  rw [← HSE.out, HCL.out]
                  exact HST2.out w4 HB4.out _ _ (SB, XB) (ElAt.own HO4.out) (ElAt.own HO5.out)
          · obtain rfl : j = n := by omega
            clear ho hb
            go_wp2_with fail
            go_roundw
            case rel => exact ⟨c + 1, _, by omega, by go_num, by have := HO.out.at; exact this, HST.out, HB.out.trans (HBR.out.mono hsz)⟩
            case measure => simp [intOf]; omega
    · obtain rfl : c = n := by omega
      obtain ⟨a, cap, rfl, -, -, hcell⟩ := hM.opens
      rw [hG.len] at HM hcell ⊢
      obtain ⟨b, off, rfl, hcc⟩ := hcell (by omega)
      have HCC := Lib.hid hcc
      have HTE := Lib.hid hG.done
      have HBA := Lib.hid ((Below.refl wo.heap.size wo).alloc (Nat.le_refl _) (.cells #[] 37))
      clear hM hG hbel hcell hcc
      go_wp2_with fail
      go_loopw [9, 10] (fun o i wr => ∃ j : Nat, j ≤ c ∧ i = .int .i64 j ∧ MatOwn byteV 5 wo.heap.size 37 wr o ((L.take j).map (·.2)) ∧ Below wo.heap.size wo wr) (fun _ i _ => c - (intOf i).toNat)
      case atStart => exact ⟨0, Nat.zero_le _, rfl, MatOwn.start wo (Nat.le_refl _), HBA.out⟩
      case round =>
        obtain ⟨j, hj, rfl, ⟨vs, hown, hel⟩, hb⟩ := hrel
        have HQ : Hid (((L.take j).map (·.2)).length = j) := Lib.hid (by rw [List.length_map, List.length_take, HL.out]; omega)
        have HO := Lib.hid hown
        rw [HQ.out] at HO
        have HEL := Lib.hid hel
        have HBR := Lib.hid hb
        by_cases hjn : j < c
        · obtain ⟨r, s, c1, c2, l1, l2⟩ := HCC.out j hjn
          have HEN : Hid (ElAt byteV 5 wo.heap.size wr s (L.getD j noLn).2) := Lib.hid (ElAt.old l2 hb)
          obtain ⟨as1, cs1, rfl, -, -, -⟩ := l2
          have c2' := (hb.cell (p := ⟨b, off + j * 2 + 1, none⟩) (World.block_lt_of_cell? wo _ c2)).trans c2
          have hszr := hb.size
          have HTK : Hid ((L.take (j + 1)).map (·.2) = (L.take j).map (·.2) ++ [(L.getD j noLn).2]) := Lib.hid (by
            have hl : j < L.length := by rw [HL.out]; exact hjn
            rw [List.take_succ_eq_append_getElem hl, List.map_append]
            simp [List.getD_eq_getElem?_getD, hl])
          clear c1 c2 l1 hown hel hb
          generalize (L.getD j noLn).2 = r2 at *
          generalize (L.take j).map (·.2) = TL at *
          go_wp2_with (at_builtin; refine wpList_append_own _ rfl (.tmp 88) (.tmp 94) 46 rfl wo.heap.size 37 j0 (.slice none 0 0) 1 24 Tryz.underlying46 hj0 jz0 jz1 jz2 rfl (by decide) u9 j vs rfl (HO.out.alloc _) ⟨wr.heap.size, 0, none⟩ 1 1 [.slice as1 r2.length cs1] rfl rfl (cell_one_new _ _ _) (fun x hx => by simp at hx; subst hx; rfl) (by unfold maxLen; omega) (by omega) (by simp; omega) ?_; intro v2 w2 hown1 hgrow1 _; have hb2 := Lib.hid ((HBR.out.alloc hszr _).grown hgrow1 (by simp; omega) (fun k hk => (HO.out.lt k hk).1)); have ho2 : Hid (MatOwn byteV 5 wo.heap.size 37 w2 v2 (TL ++ [r2])) := Lib.hid (MatOwn.app (by decide) (by rw [HQ.out]; exact HO.out) HEL.out HEN.out (by rw [HQ.out]; exact hown1) hgrow1); clear hown1 hgrow1)
          go_roundw
          case rel => exact ⟨j + 1, by omega, by go_num, by rw [HTK.out]; exact ho2.out, hb2.out⟩
          case measure => simp [intOf]; omega
        · obtain rfl : j = c := by omega
          have HMM : Hid (MatAt byteV wr u9 (L.map (·.2))) := Lib.hid (by
            have h : MatOwn byteV 5 wo.heap.size 37 wr u9 ((L.take j).map (·.2)) := ⟨vs, hown, hel⟩
            rw [List.take_of_length_le (by rw [HL.out]; exact Nat.le_refl _)] at h
            exact h.at)
          rw [HQ.out] at hown
          obtain ⟨oo, oc, rfl, -, -⟩ := own_open hown
          clear hown hel hb
          go_wp2
          go_ret
          refine ⟨_, L.map (·.2), rfl, ?_, HTE.out, HB.out.trans (HBR.out.mono hsz)⟩
          have := HMM.out
          simpa using this
end Go.Proofs.YtkhdjjcflbdegaaGreatDoor
end
