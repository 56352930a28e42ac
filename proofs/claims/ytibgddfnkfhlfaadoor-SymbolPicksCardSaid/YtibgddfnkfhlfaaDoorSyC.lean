/- Package symbol: Pick. -/
import Derived.Test.YtibgddfnkfhlfaaDoorSyB
namespace Go.Proofs.YtibgddfnkfhlfaaDoor
open Go.RowKit Go.Extern.Stop Go.Stop Go.Extern

theorem MatOwn.none {α : Type} {f : α → Value} {te e : TypeId} {base : Nat} (w : World) : MatOwn f te base e w (.slice none 0 0) [] :=
  ⟨[], World.ownsRow_nil _ _ _ _, fun i => by simpa using ElAt.nil f te base _⟩
theorem colsTo_length_le2 (ws : List Nat) (n : Nat) : (colsTo ws n).length ≤ 64 * ws.length := by
  obtain ⟨B, -, hB⟩ := cols_split ws n
  have := colsOf_length_le ws
  rw [hB, List.length_append] at this
  omega

theorem Pick_bad {w : World} (vw v : Value) (ws : List Nat) (L : List (List Nat)) (n k : Int) (hvw : ListAt wordV w vw ws) (h : MatAt byteV w v L) (hn : I64 n) (hk : checkS L n = k) (hk0 : k ≠ 0) :
    Calls Tryd.prog 16 #[vw, v, .int .i64 n] w fun e w' => ∃ E, e = .returned (.tuple #[.slice none 0 0, E]) ∧ ErrAns k namePick w' E ∧ Below w.heap.size w w' := by
  have HM := Lib.hid h
  have HK := Lib.hid hk
  have HN := Lib.hid hn
  have HK0 := Lib.hid hk0
  have hb : (k != 0) = true := by simpa using hk0
  have hb2 : (k == 0) = false := by simpa using hk0
  obtain ⟨a, cap, rfl, -, -, -⟩ := h.opens
  obtain ⟨aw, cw, rfl, -, -, -⟩ := hvw
  clear h hk hn hk0
  go_enter Tryd.func16, Tryd.ntmps16
  go_wp2_with fail
  refine (wrong_any _ L n HM.out HN.out).mono ?_
  rintro e w1 ⟨rfl, rfl⟩
  rw [HK.out]
  go_wp2_with fail
  refine (New_ans namePick k HK0.out _).mono ?_
  rintro e w1 ⟨E1, rfl, he1, hb1⟩
  have HE1 := Lib.hid he1
  have HB1 := Lib.hid hb1
  obtain ⟨u, x, rfl⟩ := he1.some HK0.out
  clear he1 hb1
  go_wp2
  go_ret2
  exact ⟨_, rfl, HE1.out, HB1.out⟩

/-- What Pick says of symbols of m bytes. -/
def PickSays (ws : List Nat) (L : List (List Nat)) (m : Nat) (w w' : World) (e : Ending) : Prop :=
  if behindB ws L.length = true then ∃ E, e = .returned (.tuple #[.slice none 0 0, E]) ∧ ErrAns 2 namePick w' E ∧ Below w.heap.size w w'
  else ∃ v', e = .returned (.tuple #[v', .nilIface]) ∧ w'.ownsRow w.heap.size 5 1 v' m ((sumB m (pickTo ws L L.length)).map byteV) ∧ Below w.heap.size w w'

set_option maxRecDepth 1000000 in
set_option maxHeartbeats 4000000 in
theorem Pick_ok {w : World} (vw v : Value) (ws : List Nat) (L : List (List Nat)) (m : Nat) (hvw : ListAt wordV w vw ws) (hww : Word ws) (hwl : ws.length ≤ 100000) (h : MatAt byteV w v L) (h1 : 1 ≤ m) (h2 : m ≤ 64) (hl : ∀ r ∈ L, r.length = m) (hw : ∀ r ∈ L, Octets r) :
    Calls Tryd.prog 16 #[vw, v, .int .i64 (m : Int)] w fun e w' => PickSays ws L m w w' e := by
  obtain ⟨i0, hi0, hz0, hz1, hz2⟩ := info_parts info_sym
  have hlen := h.len
  have HM := Lib.hid h
  have HK := Lib.hid (checkS_ok h1 h2 hl)
  have HL := Lib.hid hl
  have HW := Lib.hid hw
  have HVW := Lib.hid hvw
  have HWW := Lib.hid hww
  obtain ⟨a, cap, rfl, hcap, -, hcell⟩ := h.opens
  obtain ⟨aw, cw, rfl, -, -, -⟩ := hvw
  have HC := Lib.hid hcell
  clear h hl hw hww hcell
  go_enter Tryd.func16, Tryd.ntmps16
  go_wp2_with fail
  refine (wrong_any _ L (m : Int) HM.out (by omega)).mono ?_
  rintro e w1 ⟨rfl, rfl⟩
  rw [HK.out]
  go_wp2_with fail
  go_loopw [9, 21] (fun o i wr => ∃ k : Nat, k ≤ L.length ∧ i = .int .i64 k ∧ MatOwn byteV 5 w.heap.size 22 wr o (pickTo ws L k) ∧ Below w.heap.size w wr) (fun _ i _ => L.length - (intOf i).toNat)
  case atStart => exact ⟨0, Nat.zero_le _, rfl, MatOwn.none w, Below.refl _ _⟩
  case round =>
    obtain ⟨k, hk, rfl, ⟨vs, hown, hel⟩, hbel⟩ := hrel
    have hsz := hbel.size
    by_cases hlt : k < L.length
    · obtain ⟨b, off, rfl, hcc⟩ := HC.out (by omega)
      obtain ⟨x, hx, hlx⟩ := hcc k hlt
      have hx1 := (hbel.cell (p := ⟨b, off + k, none⟩) (World.block_lt_of_cell? w _ hx)).trans hx
      have HEX : Hid (ElAt byteV 5 w.heap.size wr x (L.getD k [])) := Lib.hid (ElAt.old hlx hbel)
      have hrl := hlx.len
      obtain ⟨ax, cx, rfl, -, -, -⟩ := hlx
      have HQ := Lib.hid (pickTo_length ws L k)
      have hq := colsTo_length_le2 ws k
      have HO := Lib.hid hown
      rw [pickTo_length] at HO
      have HEL := Lib.hid hel
      have HB := Lib.hid hbel
      have HI : Hid (hasI ws (k : Int) = bitW ws k) := Lib.hid (by rw [hasI, if_neg (by omega)]; rfl)
      have HVW1 := Lib.hid (HVW.out.mono hbel)
      have HP := Lib.hid (@pickTo_in ws L k)
      have HPO := Lib.hid (@pickTo_out ws L k)
      clear hcc hx hown hel hbel
      generalize (L.getD k []).length = ll at *
      generalize (colsTo ws k).length = q at *
      cases hb : bitW ws k with
      | true =>
        have HS := Lib.hid (HP.out hb)
        have HI2 : Hid (hasI ws (k : Int) = true) := Lib.hid (HI.out.trans hb)
        clear hb HP HPO HI
        go_wp2_with fail
        refine (Has_any _ ws (k : Int) HVW1.out HWW.out (by omega)).mono ?_
        rintro e w1 ⟨rfl, rfl⟩
        rw [HI2.out]
        go_wp2_with (at_builtin; refine wpList_append_own _ rfl (.tmp 29) (.tmp 31) 31 rfl w.heap.size 22 i0 (.slice none 0 0) 1 24 Tryd.underlying31 hi0 hz0 hz1 hz2 rfl (by decide) u9 q vs rfl (HO.out.alloc _) ⟨wr.heap.size, 0, none⟩ 1 1 [.slice ax ll cx] rfl rfl (cell_one_new _ _ _) (fun x hx => by simp at hx; subst hx; rfl) (by unfold maxLen; omega) (by omega) (by simp; omega) ?_; intro v2 w2 hown1 hgrow1 _; have hb2 := Lib.hid ((HB.out.alloc hsz _).grown hgrow1 (by simp; omega) (fun k hk => (HO.out.lt k hk).1)); have ho2 : Hid (MatOwn byteV 5 w.heap.size 22 w2 v2 (pickTo ws L k ++ [L.getD k []])) := Lib.hid (MatOwn.app (by decide) (by rw [HQ.out]; exact HO.out) HEL.out HEX.out (by rw [HQ.out]; exact hown1) hgrow1); clear hown1 hgrow1)
        go_roundw
        case rel => exact ⟨k + 1, by omega, by go_num, by rw [HS.out]; exact ho2.out, hb2.out⟩
        case measure => simp [intOf]; omega
      | false =>
        have HS := Lib.hid (HPO.out hb)
        have HI2 : Hid (hasI ws (k : Int) = false) := Lib.hid (HI.out.trans hb)
        clear hb HP HPO HI
        go_wp2_with fail
        refine (Has_any _ ws (k : Int) HVW1.out HWW.out (by omega)).mono ?_
        rintro e w1 ⟨rfl, rfl⟩
        rw [HI2.out]
        go_wp2
        go_roundw
        case rel => exact ⟨k + 1, by omega, by go_num, by rw [HS.out]; exact ⟨vs, by rw [HQ.out]; exact HO.out, HEL.out⟩, HB.out⟩
        case measure => simp [intOf]; omega
    · have hk' : k = L.length := by omega
      have hM := MatOwn.at ⟨vs, hown, hel⟩
      rw [hk'] at hM
      have HPM := Lib.hid hM
      have HB := Lib.hid hbel
      have HPL := Lib.hid (fun r hr => HL.out r (pickTo_mem (ws := ws) (Nat.le_refl L.length) r hr))
      have HPW := Lib.hid (fun r hr => HW.out r (pickTo_mem (ws := ws) (Nat.le_refl L.length) r hr))
      have HVW1 := Lib.hid (HVW.out.mono hbel)
      have hpl := pickTo_length ws L L.length
      have hq := colsTo_length_le2 ws L.length
      have hq2 := colsOf_length_le ws
      have HBH : Hid (behindB ws L.length = decide ((colsTo ws L.length).length < (colsOf ws).length)) := Lib.hid rfl
      obtain ⟨pa, pc, rfl, -, -, -⟩ := hM.opens
      rw [hpl] at HPM ⊢
      have HPS : Hid (∀ e w', PickSays ws L m w w' e = if behindB ws L.length = true then ∃ E, e = .returned (.tuple #[.slice none 0 0, E]) ∧ ErrAns 2 namePick w' E ∧ Below w.heap.size w w'
        else ∃ v', e = .returned (.tuple #[v', .nilIface]) ∧ w'.ownsRow w.heap.size 5 1 v' m ((sumB m (pickTo ws L L.length)).map byteV) ∧ Below w.heap.size w w') := Lib.hid fun _ _ => rfl
      clear hown hel hbel hM hpl
      generalize pickTo ws L L.length = R at *
      generalize behindB ws L.length = bh at *
      generalize hcq : (colsTo ws L.length).length = q at *
      generalize hco : (colsOf ws).length = z at *
      have HCO := Lib.hid hco
      clear hcq hco
      by_cases hqz : q < z
      · have HBT : Hid (bh = true) := Lib.hid (by rw [HBH.out]; exact decide_eq_true hqz)
        have hqI : (q : Int) < (z : Int) := by omega
        clear HBH
        go_wp2_with fail
        refine (Count_any _ ws HVW1.out HWW.out hwl).mono ?_
        rintro e w1 ⟨rfl, rfl⟩
        rw [HCO.out]
        go_wp2_with fail
        refine (New_ans namePick 2 (by decide) _).mono ?_
        rintro e w1 ⟨E1, rfl, he1, hb1⟩
        have HE1 := Lib.hid he1
        have HB1 := Lib.hid (HB.out.trans (hb1.mono hsz))
        obtain ⟨u, x, rfl⟩ := he1.some (by decide)
        clear he1 hb1
        go_wp2
        go_ret2
        rw [HPS.out, if_pos HBT.out]
        exact ⟨_, rfl, HE1.out, HB1.out⟩
      · have HBT : Hid (¬ bh = true) := Lib.hid (by rw [HBH.out, decide_eq_false hqz]; decide)
        have hqI : (z : Int) ≤ (q : Int) := by omega
        clear HBH
        go_wp2_with fail
        refine (Count_any _ ws HVW1.out HWW.out hwl).mono ?_
        rintro e w1 ⟨rfl, rfl⟩
        rw [HCO.out]
        go_wp2_with fail
        refine (added_any _ R m HPM.out HPL.out HPW.out (by omega)).mono ?_
        rintro e w1 ⟨v1, rfl, ho1, hb1⟩
        have HO1 := Lib.hid (ownsRow_base ho1 hsz)
        have HB1 := Lib.hid (HB.out.trans (hb1.mono hsz))
        obtain ⟨ao, co, rfl, -, -⟩ := own_open ho1
        clear ho1 hb1
        go_wp2
        go_ret2
        rw [HPS.out, if_neg HBT.out]
        exact ⟨_, rfl, HO1.out, HB1.out⟩
end Go.Proofs.YtibgddfnkfhlfaaDoor
