import Derived.Test.YtkhdjjcflbdegaaGreatDoorG35
import Derived.Test.YtkhdjjcflbdegaaGreatDoorG14
import Derived.Test.YtkhdjjcflbdegaaGreatDoorG50

section
/- The document's answers for layer 11: Seed, Sum, Holds. -/
namespace Go.Proofs.YtkhdjjcflbdegaaGreatDoor
open Go.RowKit Go.Extern.Stop Go.Stop Go.Extern

theorem range_lt (k : Nat) (hk : k ≤ 65536) : ∀ e ∈ List.range k, e < 65536 := fun e he => by
  have := List.mem_range.1 he
  omega
set_option maxRecDepth 1000000 in
set_option maxHeartbeats 4000000 in
theorem r11Seed_any {w : World} (k : Nat) (hk1 : 1 ≤ k) (hk2 : k ≤ 128) :
    Calls Tryz.prog 38 #[.int .i64 (k : Int)] w fun e w' => ∃ s h l p sd : Nat, e = .returned (.int .i64 (sd : Int)) ∧ OfP k s h l p ∧ IsSeed k s h l p sd ∧ Below w.heap.size w w' := by
  go_enter Tryz.func38, Tryz.ntmps38
  go_wp2_with fail
  refine (rOf_any k hk1 hk2).mono ?_
  rintro e w1 ⟨s, h, l, p, rfl, hof, hb1⟩
  have HOF := Lib.hid hof
  obtain ⟨sd, hsd⟩ := isSeed_ex hof hk1 hk2
  have HSD := Lib.hid hsd
  have hsd1 := hsd.1
  obtain ⟨W, hW, hbW, hby⟩ := par_laid w1 k s h l p
  have HW := Lib.hid hW
  have HB1 := Lib.hid (hb1.trans (hbW.mono hb1.size))
  have HX1 := Lib.hid hby
  have HFI : Hid (∀ V, Calls Tryz.prog 74 #[.int .i64 (k : Int)] V fun e w' => ∃ v, e = .returned v ∧ ListAt colV w' v (List.range k) ∧ Below V.heap.size V w') := Lib.hid fun V => r11First_any k (by omega)
  have HRK : Hid (∀ (V : World) (v : Value) (t : Nat), t < 65536 → ListAt colV V v (List.range k) → Calls Tryz.prog 28 #[.agg #[.int .i64 (k : Int), .int .i64 (s : Int), .int .i64 (h : Int), .int .i64 (l : Int), .int .i64 (p : Int)], .int .i64 (t : Int), v] V fun e w' => e = .returned (.int .i64 (rankA k s h l p t (List.range k) : Nat)) ∧ Below V.heap.size V w') := Lib.hid fun V v t ht hv => r11Rank_any k s h l p t v (List.range k) hof hk1 hk2 ht hv (range_lt k (by omega)) (by rw [List.length_range]; omega)
  clear hof hsd hW hbW hby hb1 hk1 hk2
  unfold parV parC
  go_upto_region 2 with fail
  rw [← HW.out]
  obtain ⟨g1, hg1⟩ : ∃ g1, w1.heap.size = g1 := ⟨_, rfl⟩
  rw [hg1] at HX1 ⊢
  clear hg1
  go_wp2_with fail
  go_loopw [4] (fun i wr => ∃ t : Nat, i = .int .i64 t ∧ t ≤ sd ∧ Below W.heap.size W wr) (fun i _ => 65536 - (intOf i).toNat)
  case atStart => exact ⟨0, rfl, Nat.zero_le _, Below.refl _ _⟩
  case round =>
    obtain ⟨t, rfl, hts, hbel⟩ := hrel
    have htl : t < 65536 := by omega
    have dt : decide ((t : Int) < 65536) = true := decide_eq_true (by omega)
    have HTS := Lib.hid hts
    have HBL := Lib.hid hbel
    have hbd := hbel.drew
    have HBD := Lib.hid hbd
    have HSAT : Hid (∀ V, Below wr.drew.heap.size wr.drew V → V.cell? ⟨g1, 0, none⟩ = some (.int .i64 (k : Int)) ∧ V.cell? ⟨g1, 1, none⟩ = some (.int .i64 (s : Int)) ∧ V.cell? ⟨g1, 2, none⟩ = some (.int .i64 (h : Int)) ∧ V.cell? ⟨g1, 3, none⟩ = some (.int .i64 (l : Int)) ∧ V.cell? ⟨g1, 4, none⟩ = some (.int .i64 (p : Int))) := Lib.hid fun V hV => ((HX1.out.mono hbd).mono hV).cells
    have HSD0 := Lib.hid (HSAT.out wr.drew (Below.refl _ _))
    have HRT := Lib.hid (fun V v => HRK.out V v t htl)
    obtain ⟨q, hq⟩ : ∃ q, rankA k s h l p t (List.range k) = q := ⟨_, rfl⟩
    rw [hq] at HRT
    have HCASE : Hid ((q = l ∧ t = sd) ∨ (q ≠ l ∧ t < sd)) := Lib.hid (by
      by_cases h1 : q = l
      · left
        refine ⟨h1, ?_⟩
        rcases Nat.lt_or_ge t sd with h5 | h5
        · exact absurd (hq.trans h1) (HSD.out.2.2 t h5)
        · omega
      · right
        refine ⟨h1, ?_⟩
        rcases Nat.lt_or_ge t sd with h5 | h5
        · exact h5
        · obtain rfl : t = sd := by omega
          exact absurd (hq.symm.trans HSD.out.2.1) h1)
    clear hq hts hbel hbd htl
    rcases HCASE.out with ⟨hql, hts⟩ | ⟨hql, hts⟩
    · have hqb : ((q : Int) == (l : Int)) = true := by rw [beq_iff_eq]; omega
      have HQL := Lib.hid hts
      clear hql hts HCASE
      go_wp2_with fail
      go_region_held3 (fun w' => w'.cell? ⟨g1, 0, none⟩ = some (.int .i64 (k : Int)) ∧ w'.cell? ⟨g1, 1, none⟩ = some (.int .i64 (s : Int)) ∧ w'.cell? ⟨g1, 2, none⟩ = some (.int .i64 (h : Int)) ∧ w'.cell? ⟨g1, 3, none⟩ = some (.int .i64 (l : Int)) ∧ w'.cell? ⟨g1, 4, none⟩ = some (.int .i64 (p : Int)))
        (first | exact HSD0.out | exact HSAT.out _ HB4.out | exact HSAT.out _ HB3.out | go_keep)
        (first
        | (go_at_call 74; (with_reducible refine (HFI.out _).mono ?_); rintro e w3 ⟨v3, rfl, hl3, hb3⟩; have HB3 := Lib.hid hb3; have HR3 := Lib.hid (HRT.out w3 v3 hl3); clear hl3 hb3)
        | (go_at_call 28; (with_reducible refine HR3.out.mono ?_); rintro e w4 ⟨rfl, hb4⟩; have HB4 := Lib.hid (HB3.out.trans (hb4.mono HB3.out.size)); clear hb4))
      all_goals
        go_wp2
        go_ret
        exact ⟨s, h, l, p, t, rfl, HOF.out, by rw [HQL.out]; exact HSD.out, HB1.out.trans ((HBD.out.trans (HB4.out.mono HBD.out.size)).mono HB1.out.size)⟩
    · have hqb : ((q : Int) == (l : Int)) = false := by rw [beq_eq_false_iff_ne]; omega
      have HQL := Lib.hid hts
      clear hql HCASE
      go_wp2_with fail
      go_region_held3 (fun w' => w'.cell? ⟨g1, 0, none⟩ = some (.int .i64 (k : Int)) ∧ w'.cell? ⟨g1, 1, none⟩ = some (.int .i64 (s : Int)) ∧ w'.cell? ⟨g1, 2, none⟩ = some (.int .i64 (h : Int)) ∧ w'.cell? ⟨g1, 3, none⟩ = some (.int .i64 (l : Int)) ∧ w'.cell? ⟨g1, 4, none⟩ = some (.int .i64 (p : Int)))
        (first | exact HSD0.out | exact HSAT.out _ HB4.out | exact HSAT.out _ HB3.out | go_keep)
        (first
        | (go_at_call 74; (with_reducible refine (HFI.out _).mono ?_); rintro e w3 ⟨v3, rfl, hl3, hb3⟩; have HB3 := Lib.hid hb3; have HR3 := Lib.hid (HRT.out w3 v3 hl3); clear hl3 hb3)
        | (go_at_call 28; (with_reducible refine HR3.out.mono ?_); rintro e w4 ⟨rfl, hb4⟩; have HB4 := Lib.hid (HB3.out.trans (hb4.mono HB3.out.size)); clear hb4))
      all_goals
        go_wp2
        go_roundw
        case rel => exact ⟨t + 1, by go_num, HQL.out, HBD.out.trans (HB4.out.mono HBD.out.size)⟩
        case measure => simp [intOf]; omega

/-! ### Sum -/
set_option maxRecDepth 1000000 in
set_option maxHeartbeats 4000000 in
theorem r11Sum_any {w : World} (vc v : Value) (cs : List Nat) (L : List (List Nat)) (n : Nat) (hc : ListAt colV w vc cs) (h : MatAt byteV w v L) (hlt : ∀ c ∈ cs, c < L.length) (hcl : cs.length ≤ 6400000) (hl : ∀ r ∈ L, r.length = n) (hw : ∀ r ∈ L, Octets r) (hn : n ≤ 1000) :
    Calls Tryz.prog 48 #[vc, v, .int .i64 (n : Int)] w fun e w' => ∃ v', e = .returned v' ∧ w'.ownsRow w.heap.size 5 1 v' n ((sumS n (cs.map fun c => L.getD c [])).map byteV) ∧ Below w.heap.size w w' := by
  have HP := Lib.hid (sPicked_any vc v cs L hc h hlt hcl)
  have hin : ∀ r ∈ cs.map (fun c => L.getD c []), r ∈ L := fun r hr => by
    obtain ⟨c, hc, rfl⟩ := List.mem_map.1 hr
    exact getD_mem_row (hlt c hc)
  have HIN := Lib.hid hin
  have HL := Lib.hid hl
  have HW := Lib.hid hw
  obtain ⟨ac, cc, rfl, -, -, -⟩ := hc
  obtain ⟨av, cv, rfl, -, -, -⟩ := h.opens
  clear h hlt hl hw hin
  generalize (cs.map fun c => L.getD c []) = PL at *
  go_enter Tryz.func48, Tryz.ntmps48
  go_wp2_with fail
  refine HP.out.mono ?_
  rintro e w1 ⟨v1, rfl, hm1, hb1⟩
  have HS := Lib.hid (sSum_any v1 PL n hm1.at (fun r hr => HL.out r (HIN.out r hr)) (fun r hr => HW.out r (HIN.out r hr)) (by omega))
  have HB1 := Lib.hid hb1
  obtain ⟨a1, q1, rfl, -, -, -⟩ := hm1.at.opens
  clear hm1 hb1
  go_wp2_with fail
  refine HS.out.mono ?_
  rintro e w2 ⟨v2, rfl, ho2, hb2⟩
  have HO2 := Lib.hid (ownsRow_base ho2 HB1.out.size)
  have HB2 := Lib.hid (HB1.out.trans (hb2.mono HB1.out.size))
  obtain ⟨a2, q2, rfl, -, -⟩ := own_open ho2
  clear ho2 hb2
  go_wp2
  go_ret
  exact ⟨_, rfl, HO2.out, HB2.out⟩
end Go.Proofs.YtkhdjjcflbdegaaGreatDoor
end
