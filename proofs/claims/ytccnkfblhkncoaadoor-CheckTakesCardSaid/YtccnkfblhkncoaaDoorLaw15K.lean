/- The fifteenth layer's law CheckTakes. -/
import Derived.Test.YtccnkfblhkncoaaDoorLaw15
import Derived.Test.YtccnkfblhkncoaaDoorErrRow
import Derived.Laws.AppendOwnNone
namespace Go.Proofs.YtccnkfblhkncoaaDoor
open Go.RowKit Go.Extern.Stop Go.Stop Go.Extern

/-- What Take says, on both sides. -/
theorem ckTake_both (hT : CkTakeC) (l : List Nat) (ho : Octets l) (hR : l.length ≤ 140737488351232) : ∃ (k : Int) (L' : List Nat),
    (∀ (V : World) (v : Value), ListAt byteV V v l → Calls Tryd.prog 6 #[v] V fun e w' => ∃ v1 E, e = .returned (.tuple #[v1, E]) ∧ ErrAns k nameCkTake w' E ∧ w'.ownsRow V.heap.size 5 1 v1 L'.length (L'.map byteV) ∧ Below V.heap.size V w') ∧
    (∀ (V : World) (v : Value), ListAt byteV V v l → Calls Tryd.prog 7 #[v] V fun e w' => ∃ v2, e = .returned (.tuple #[v2, .int .i64 k]) ∧ ListAt byteV w' v2 L' ∧ Below V.heap.size V w') := by
  have hR2 : l.length ≤ 140737488351248 := by omega
  by_cases h4 : l.length < 4
  · refine ⟨2, [], fun V v hv => (hT V v l hv ho hR2).mono ?_, fun V v hv => (ckTake_any v l hv ho hR).mono ?_⟩
    · rintro e w' ⟨hb, ⟨-, E, rfl, he⟩ | ⟨h, -⟩ | ⟨h, -⟩⟩
      · exact ⟨_, E, rfl, he, World.ownsRow_nil _ _ _ _, hb⟩
      · omega
      · omega
    · rintro e w' ⟨hb, ⟨-, rfl⟩ | ⟨h, -⟩ | ⟨h, -⟩⟩
      · exact ⟨_, rfl, ListAt.nil _ _, hb⟩
      · omega
      · omega
  · by_cases hw : WholeS l
    · have hl : (l.take (l.length - 4)).length = l.length - 4 := by rw [List.length_take]; omega
      refine ⟨0, l.take (l.length - 4), fun V v hv => (hT V v l hv ho hR2).mono ?_, fun V v hv => (ckTake_any v l hv ho hR).mono ?_⟩
      · rintro e w' ⟨hb, ⟨h, -⟩ | ⟨-, h, -⟩ | ⟨-, -, v1, rfl, h⟩⟩
        · exact absurd h h4
        · exact absurd hw h
        · exact ⟨v1, _, rfl, ErrAns.none _ _, by rw [hl]; exact h, hb⟩
      · rintro e w' ⟨hb, ⟨h, -⟩ | ⟨-, h, -⟩ | ⟨-, -, v1, rfl, h⟩⟩
        · exact absurd h h4
        · exact absurd hw h
        · exact ⟨v1, rfl, h, hb⟩
    · refine ⟨6, [], fun V v hv => (hT V v l hv ho hR2).mono ?_, fun V v hv => (ckTake_any v l hv ho hR).mono ?_⟩
      · rintro e w' ⟨hb, ⟨h, -⟩ | ⟨-, -, E, rfl, he⟩ | ⟨-, h, -⟩⟩
        · exact absurd h h4
        · exact ⟨_, E, rfl, he, World.ownsRow_nil _ _ _ _, hb⟩
        · exact absurd h hw
      · rintro e w' ⟨hb, ⟨h, -⟩ | ⟨-, -, rfl⟩ | ⟨-, h, -⟩⟩
        · exact absurd h h4
        · exact ⟨_, rfl, ListAt.nil _ _, hb⟩
        · exact absurd h hw

set_option maxRecDepth 1000000 in
set_option maxHeartbeats 4000000 in
theorem takes15 (hS : CkSumC) (hT : CkTakeC) {w : World} (v : Value) (l : List Nat) (h : ListAt byteV w v l) (ho : Octets l) (hR : l.length * 1 ≤ reachBytes) (hg : Laid w) :
    Calls Tryd.prog 3 #[v] w fun e w' => e = .returned (.bool true) ∧ Below w.heap.size w w' := by
  obtain ⟨j0, hj0, jz0, jz1, jz2⟩ := info_parts info_u8
  have hR2 : l.length ≤ 140737488351232 := by unfold reachBytes at hR; omega
  have hlen := h.len
  obtain ⟨k, L', hP, hD⟩ := ckTake_both hT l ho hR2
  have HP := Lib.hid hP
  have HD := Lib.hid hD
  have HAW := Lib.hid (awake15 hS hT)
  have HOC := Lib.hid ho
  have HG := Lib.hid hg
  have HL := Lib.hid h
  obtain ⟨a, cap, rfl, -, -, -⟩ := h
  have HOS := Lib.hid (World.ownsRow_made (base := w.heap.size) (e := 5) (size := 1) w #[] 0 (Nat.le_refl _) (by decide) rfl)
  have HBe := Lib.hid ((Below.refl w.heap.size w).alloc (Nat.le_refl _) (.cells #[] 5))
  have HLe := Lib.hid (HL.out.mono HBe.out)
  clear hS hT hP hD ho hg hR
  go_enter Tryd.func3, Tryd.ntmps3
  go_wp2_with (at_builtin; refine wpList_append_of _ rfl (.tmp 9) (.tmp 10) 22 rfl w.heap.size 5 j0 (.int .u8 0) 1 Tryd.underlying22 hj0 jz0 jz1 jz2 rfl (.slice (some ⟨w.heap.size, 0, none⟩) 0 0) 0 [] rfl HOS.out (.slice a l.length cap) l rfl HLe.out (fun y _ => rfl) (by unfold maxLen; omega) (by omega) (by simp) ?_; intro v5 w1 ho1 hg1; have HO1 := Lib.hid (show w1.ownsRow w.heap.size 5 1 v5 l.length (l.map byteV) by simpa using ho1); have HB1 := Lib.hid (HBe.out.grown hg1 (by simp) (fun k hk => (HOS.out.lt k hk).1)); clear ho1 hg1)
  have hl1 : ListAt byteV w1 v5 l := ListAt.of_owns HO1.out
  refine (HP.out w1 v5 hl1).mono ?_
  rintro e w2 ⟨v1, E, rfl, he, hv1, hb2⟩
  obtain ⟨ao, co, rfl, hco, hao⟩ := own_open HO1.out
  have HAO := Lib.hid hao
  have HB2 := Lib.hid (HB1.out.trans (hb2.mono HB1.out.size))
  have HO2 := Lib.hid (owns_kept HO1.out hb2)
  have HE2 := Lib.hid he
  have HV2 := Lib.hid hv1
  clear hl1 he hb2 hv1 hao
  go_wp2_with fail
  go_loopw [6] (fun i wr => ∃ (k : Nat) (R : List Nat), k ≤ l.length ∧ i = .int .i64 (k : Int) ∧ R.length = l.length ∧ Octets R ∧ wr.ownsRow w.heap.size 5 1 (.slice ao l.length co) l.length (R.map byteV) ∧ w2.grownBy wr (Value.slice ao l.length co).ownBlock ∧ (l.length = 0 → w2 = wr)) (fun i _ => l.length - (intOf i).toNat)
  case atStart => exact ⟨0, l, by omega, rfl, rfl, HOC.out, HO2.out, World.grownBy.refl _ _, fun _ => rfl⟩
  case round =>
    obtain ⟨k, R, hk, rfl, hRl, hRo, hown, hgr, hz0⟩ := hrel
    by_cases hlt : k < l.length
    · obtain ⟨g, rfl⟩ := HAO.out (by omega)
      have d2 : decide ((k : Int) < (l.length : Int)) = true := decide_eq_true (by omega)
      have hcell := hown.cellAt k (by omega)
      have hx : R.getD k 0 < 256 := hRo.getD k
      have hcell' : wr.cell? ⟨g, k, none⟩ = some (.int .u8 ((R.getD k 0 : Nat) : Int)) := by
        rw [hcell]
        have : k < R.length := by omega
        simp [byteV, List.getD_eq_getElem?_getD, this]
      have hfr : wr.frozen? ⟨g, k, none⟩ = false := hown.frozenAt k
      have HST : Hid ((wr.setCell ⟨g, k, none⟩ (.int .u8 ((255 - R.getD k 0 : Nat) : Int))).ownsRow w.heap.size 5 1 (.slice (some ⟨g, 0, none⟩) l.length co) l.length ((R.set k (255 - R.getD k 0)).map byteV) ∧ w2.grownBy (wr.setCell ⟨g, k, none⟩ (.int .u8 ((255 - R.getD k 0 : Nat) : Int))) (Value.slice (some ⟨g, 0, none⟩) l.length co).ownBlock) := Lib.hid (by
        obtain ⟨h1, h2⟩ := hown.stored k (byteV (255 - R.getD k 0))
        refine ⟨?_, grown_trans hgr h2⟩
        rw [List.map_set]
        exact h1)
      have HRS : Hid (Octets (R.set k (255 - R.getD k 0)) ∧ (R.set k (255 - R.getD k 0)).length = l.length) := Lib.hid ⟨hRo.set k _ (by omega), by rw [List.length_set]; exact hRl⟩
      clear hcell hown hgr hRo hRl
      generalize R.getD k 0 = x at *
      have hsub : (255 : Int) - (x : Int) = ((255 - x : Nat) : Int) := by omega
      have hy : 255 - x < 256 := by omega
      generalize 255 - x = y at *
      go_wp2
      exact ⟨⟨k + 1, R.set k y, hlt, by go_num, HRS.out.2, HRS.out.1, HST.out.1, HST.out.2, fun h => by omega⟩, by simp [intOf]; omega⟩
    · obtain rfl : k = l.length := by omega
      have d2 : decide ((l.length : Int) < (l.length : Int)) = false := decide_eq_false (by omega)
      have HB3 := Lib.hid (HB2.out.grown hgr HB2.out.size (fun j hj => (HO2.out.lt j hj).1))
      have HE3 := Lib.hid (errAns_row HE2.out HO2.out (fun y hy s => by obtain ⟨z, _, rfl⟩ := List.mem_map.1 hy; intro h; cases h) hgr hz0)
      have HV3 := Lib.hid (HV2.out.kept hgr (by
        by_cases hn : v1.ownBlock = none
        · exact .inl hn
        · refine .inr fun e => ?_
          rcases hq : v1.ownBlock with _ | q
          · exact hn hq
          · have h1 := (HV2.out.lt q hq).1
            have h2 := (HO1.out.lt q (by rw [← e, hq])).2
            omega))
      have HL3 := Lib.hid (HL.out.mono HB3.out)
      clear hown hgr hz0
      go_wp2_with fail
      refine (HD.out _ _ HL3.out).mono ?_
      rintro e w4 ⟨v2, rfl, hl2, hb4⟩
      have HB4 := Lib.hid (HB3.out.trans (hb4.mono HB3.out.size))
      have HE4 := Lib.hid (HE3.out.mono hb4)
      have HV4 := Lib.hid ((ListAt.of_owns (f := byteV) (l := L') HV3.out).mono hb4)
      have HL4 := Lib.hid hl2
      clear hl2 hb4
      go_wp2_with fail
      refine (tells_ans _ _ _ HE4.out (HG.out.mono HB4.out)).mono ?_
      rintro e w5 ⟨rfl, hb5⟩
      have HB5 := Lib.hid (HB4.out.trans (hb5.mono HB4.out.size))
      have hs1 := (HV4.out.mono hb5).str
      have hs2 := (HL4.out.mono hb5).str
      obtain ⟨b1, c1, rfl, -, -, -⟩ := HV4.out
      obtain ⟨b2, c2, rfl, -, -, -⟩ := HL4.out
      generalize strN L' = str at *
      clear hb5
      go_wp2_with fail
      refine (HAW.out _).mono ?_
      rintro e w6 ⟨rfl, hb6⟩
      have HB6 := Lib.hid (HB5.out.trans (hb6.mono HB5.out.size))
      clear hb6
      go_wp2
      go_ret
      exact ⟨rfl, HB6.out⟩
end Go.Proofs.YtccnkfblhkncoaaDoor
