/- Package geyserref05: Value, a column that is known. -/
import Derived.Test.YtnkkaggepokjeaaDoorJoinE
import Derived.Deep.AppendLies
import Derived.Deep.RegionLaw
import Derived.Deep.RegionHeld3
namespace Go.Proofs.YtnkkaggepokjeaaDoor
open Go.RowKit Go.Extern.Stop Go.Stop Go.Extern

theorem bytes_sym {row : List Bool} {n size : Nat} {x : Vec} (hx : bitB row = x) : bytesTo (row.drop n) size = symV n size x := by
  unfold bytesTo symV
  refine List.map_congr_left fun i _ => ?_
  unfold byteAt
  have e : ∀ b, bitB (row.drop n) (8 * i + b) = x (n + 8 * i + b) := fun b => by
    rw [← hx]
    unfold bitB
    rw [List.getD_eq_getElem?_getD, List.getD_eq_getElem?_getD, List.getElem?_drop, Nat.add_assoc]
  simp only [e]

theorem ListAt.drop {α : Type} {f : α → Value} {w : World} {b off cap : Nat} {l : List α} (h : ListAt f w (.slice (some ⟨b, off, none⟩) l.length cap) l) (k : Nat) (hk : k ≤ l.length) : ListAt f w (.slice (some ⟨b, off + k, none⟩) (l.length - k) (cap - k)) (l.drop k) := by
  obtain ⟨a', cap', e, hc, hm, h⟩ := h
  cases e
  have hl : (l.drop k).length = l.length - k := List.length_drop ..
  refine ⟨_, cap - k, by rw [hl], by omega, by omega, fun hp => ⟨b, off + k, rfl, fun j hj => ?_⟩⟩
  obtain ⟨b2, off2, e2, hcell⟩ := h (by omega)
  cases e2
  rw [Nat.add_assoc, hcell (k + j) (by omega)]
  simp

set_option maxRecDepth 1000000 in
set_option maxHeartbeats 16000000 in
theorem Value_some {w : World} (n size : Nat) (v : Value) (L : List Eqn) (cc : Nat) (h : EqsAt w v L) (hok : ∀ p ∈ L, EqOk n size p)
    (hn : n + 8 * size ≤ 4096) (hl : L.length ≤ 4095) (hcn : cc < n) (hsz1 : 1 ≤ size) (hsz64 : size ≤ 64) (hcons : Cons n (vecsE L n)) (x : Vec) (hx : ValV n (vecsE L n) cc x) :
    Calls Tryd.prog 39 #[sysV n size v false, .int .i64 (cc : Int)] w fun e w' => ∃ v', e = .returned (.tuple #[v', .int .i64 0]) ∧ w'.ownsRow w.heap.size 5 1 v' size ((symV n size x).map byteV) ∧ Below w.heap.size w w' := by
  obtain ⟨i0, hi0, hz0, hz1, hz2⟩ := info_parts info_brow
  have hk1 : kOf n ≤ 100000 := by unfold kOf; omega
  have HOK := Lib.hid hok
  have HCONS := Lib.hid hcons
  have HX := Lib.hid hx
  have HOKM := Lib.hid (rowsE_ok hok (show n ≤ 4096 by omega) (show L.length ≤ 4096 by omega))
  obtain ⟨h1, h2, h3⟩ := one_row hcn
  have HOKM2 : Hid (MatOk (rowsE L ++ [packW [(cc : Int)] (kOf n)]) n) := Lib.hid ⟨HOKM.out.cols, by simp [rowsE]; omega, fun r hr => by
    rcases List.mem_append.1 hr with h | h
    · exact HOKM.out.words r h
    · rw [List.mem_singleton.1 h]; exact h3, fun r hr => by
    rcases List.mem_append.1 hr with h | h
    · exact HOKM.out.whole r h
    · rw [List.mem_singleton.1 h]
      refine ⟨h2, fun d hd => ?_⟩
      rw [h1]
      simp [unitV]
      omega⟩
  have HKN : Hid (Sp (vecs (rowsE L)) (bitW (packW [(cc : Int)] (kOf n)))) := Lib.hid (by rw [h1, ← vecsE_proj hok]; exact hx.known)
  have hcI : (0 : Int) ≤ (cc : Int) := by omega
  have hcN : (cc : Int) < (n : Int) := by omega
  have hn4 : n ≤ 4096 := by omega
  have HE0 := Lib.hid h
  have HEL := h
  obtain ⟨ad, cap, rfl, hcap, hcm, -⟩ := HEL
  obtain ⟨w0, hw0, hb0, hs0, hsc⟩ := sys_laid w n size (.slice ad L.length cap) false
  have HB0 := Lib.hid hb0
  have HSC := Lib.hid hsc
  have HW0 := Lib.hid hw0
  clear hsc hb0 hw0 hok h hcons hx h1 h2 h3
  have hs0' := HSC.out.1
  have hs1' := HSC.out.2.1
  have hs2' := HSC.out.2.2.1
  have hs3' := HSC.out.2.2.2
  have HBD : Hid (Below w.heap.size w w0.drew) := Lib.hid HB0.out.drew
  have HSCD : Hid (SysCells w.heap.size w0.drew n size (.slice ad L.length cap) false) := Lib.hid (HSC.out.mono (Below.refl _ _).drew)
  have HROWS : Hid (∀ w', Below w.heap.size w w' → Calls Tryd.prog 58 #[sysV n size (.slice ad L.length cap) false] w' fun e w'' => ∃ v', e = .returned v' ∧ MatAt wordV w'' v' (rowsE L) ∧ Below w'.heap.size w' w'') := Lib.hid fun w' hb => Rows_any n size _ false L (HE0.out.mono hb) (by omega)
  unfold sysV at HROWS ⊢
  go_enter Tryd.func39, Tryd.ntmps39
  go_wp2_with fail
  rw [← HW0.out]
  first
  | (
    go_region_held3 (fun w' => w'.cell? ⟨w.heap.size, 0, none⟩ = some (.int .i64 (n : Int)) ∧ w'.cell? ⟨w.heap.size, 1, none⟩ = some (.int .i64 (size : Int)) ∧ w'.cell? ⟨w.heap.size, 2, none⟩ = some (.slice ad L.length cap) ∧ w'.cell? ⟨w.heap.size, 3, none⟩ = some (.bool false))
      (first | exact HSCD.out | exact HSB.out | exact HSO.out | exact HSA.out | go_keep)
      (first
      | (go_at_call 58; (with_reducible refine (HROWS.out _ HBD.out).mono ?_); rintro e wA ⟨va, rfl, hva, hbA⟩; have HMA := Lib.hid hva; have HSA := Lib.hid (HSCD.out.mono hbA); have HBA := Lib.hid (HBD.out.trans (hbA.mono HBD.out.size)); clear hva hbA)
      | (go_at_call 65; (with_reducible refine (one_any cc n hn4).mono ?_); rintro e wO ⟨vo, rfl, hvo, hbO⟩; have HVO := Lib.hid hvo; have HMO := Lib.hid (HMA.out.mono hbO); have HSO := Lib.hid (HSA.out.mono hbO); have HBO := Lib.hid (HBA.out.trans (hbO.mono HBA.out.size)); clear hvo hbO)
      | (go_at_call 57; (with_reducible refine (refSpans_any va vo (rowsE L) _ n HMO.out HVO.out HOKM.out HOKM2.out).mono ?_); rintro e wB ⟨bt, rfl, hbt, hbB⟩; have HBT := Lib.hid hbt; have HSB := Lib.hid (HSO.out.mono hbB); have HBB := Lib.hid (HBO.out.trans (hbB.mono HBO.out.size)); clear hbt hbB)))
  | fail
  all_goals
    cases bt with
    | false => exact absurd (HBT.out.2 HKN.out) (by decide)
    | true =>
      have HE1 := Lib.hid (HE0.out.mono HBB.out)
      have HSB1 := Lib.hid HSB.out
      have HBB1 := Lib.hid HBB.out
      have hszB := HBB1.out.size
      clear HMA HSA HBA HVO HMO HSO HBO HBT HBB HSB
      obtain ⟨ad', cap', e', -, -, hcell⟩ := HE1.out
      obtain ⟨rfl, rfl⟩ : ad' = ad ∧ cap' = cap := by simpa using e'.symm
      have HC := Lib.hid hcell
      clear hcell e'
      simp only [Bool.not_true]
      go_wp2
      go_loopw [6, 7] (fun o i wr => ∃ k : Nat, k ≤ L.length ∧ i = .int .i64 k ∧ MatOwn boolV 4 wB.heap.size 65 wr o (longsTo L n k) ∧ Below wB.heap.size wB wr) (fun _ i _ => L.length - (intOf i).toNat)
      case atStart => exact ⟨0, Nat.zero_le _, rfl, MatOwn.start wB (Nat.le_refl _), (Below.refl _ _).alloc (Nat.le_refl _) _⟩
      case round =>
        obtain ⟨k, hk, rfl, ⟨vs, hown, hel⟩, hbel⟩ := hrel
        have hsz := hbel.size
        have hs2 := (HSB1.out.mono hbel).2.2.1
        have hs1 := (HSB1.out.mono hbel).1
        by_cases hlt : k < L.length
        · obtain ⟨b, off, rfl, hcc⟩ := HC.out (by omega)
          obtain ⟨x1, y1, hx1, hy1, hlx, hly⟩ := hcc k hlt
          have hbd : Below wr.heap.size wr wr.drew := (Below.refl _ _).drew
          have HLX := Lib.hid ((hlx.mono hbel).mono hbd)
          have HLY := Lib.hid ((hly.mono hbel).mono hbd)
          have HE := Lib.hid (HOK.out _ (getD_mem_eq hlt))
          obtain ⟨ax, cx, rfl, -, -, -⟩ := hlx
          obtain ⟨ay, cy, rfl, -, -, -⟩ := hly
          have hx2 := (hbel.cell (p := ⟨b, off + k * 2, none⟩) (World.block_lt_of_cell? wB _ hx1)).trans hx1
          have hy2 := (hbel.cell (p := ⟨b, off + k * 2 + 1, none⟩) (World.block_lt_of_cell? wB _ hy1)).trans hy1
          have HQ := Lib.hid (longsTo_length (n := n) hk)
          have HO := Lib.hid (owns_kept hown hbd)
          rw [longsTo_length hk] at HO
          have HEL := Lib.hid (fun i => (hel i).mono hbd)
          have HB := Lib.hid (hbel.trans (hbd.mono hsz))
          have HS := Lib.hid (longsTo_succ (n := n) hlt)
          have hszd : wB.heap.size ≤ wr.drew.heap.size := HB.out.size
          have HX1 := Lib.hid hx1
          have HY1 := Lib.hid hy1
          clear hcc hx1 hy1 hown hel hbel hbd
          generalize L.getD k noEq = p at *
          obtain ⟨pr, ps⟩ := p
          simp only at hx2 hy2 HLX HLY HS HX1 HY1
          go_wp2_with fail
          have HE1 : Hid (Word pr ∧ Octets ps ∧ pr.length ≤ 100000 ∧ ps.length ≤ 64) := Lib.hid ⟨HE.out.2.1, HE.out.2.2.2.2, by have := HE.out.1; simp only at this; rw [this]; exact hk1, by have := HE.out.2.2.2.1; simp only at this; rw [this]; exact hsz64⟩
          have HSAT : Hid (∀ W, Below wB.heap.size wB W → W.cell? ⟨w.heap.size, 0, none⟩ = some (.int .i64 (n : Int)) ∧ W.cell? ⟨w.heap.size, 2, none⟩ = some (.slice (some ⟨b, off, none⟩) L.length cap') ∧ W.cell? ⟨b, off + k * 2, none⟩ = some (.slice ax pr.length cx) ∧ W.cell? ⟨b, off + k * 2 + 1, none⟩ = some (.slice ay ps.length cy)) := Lib.hid fun W hW => ⟨(HSB1.out.mono hW).1, (HSB1.out.mono hW).2.2.1, (hW.cell (p := ⟨b, off + k * 2, none⟩) (World.block_lt_of_cell? wB _ HX1.out)).trans HX1.out, (hW.cell (p := ⟨b, off + k * 2 + 1, none⟩) (World.block_lt_of_cell? wB _ HY1.out)).trans HY1.out⟩
          have HSD := Lib.hid (HSAT.out _ HB.out)
          clear hs1 hs2 hx2 hy2
          first
          | (
            go_region_held3 (fun w' => w'.cell? ⟨w.heap.size, 0, none⟩ = some (.int .i64 (n : Int)) ∧ w'.cell? ⟨w.heap.size, 2, none⟩ = some (.slice (some ⟨b, off, none⟩) L.length cap') ∧ w'.cell? ⟨b, off + k * 2, none⟩ = some (.slice ax pr.length cx) ∧ w'.cell? ⟨b, off + k * 2 + 1, none⟩ = some (.slice ay ps.length cy))
              (first | exact HSD.out | exact HSAT.out _ hb2.out | exact HSAT.out _ (HB3.out.alloc hsz1 _) | exact HSAT.out _ HB3.out | go_keep)
              (first
              | (go_at_call 66; (with_reducible refine (long_any _ _ pr ps n HLX.out HLY.out HE1.out.1 HE1.out.2.1 HE1.out.2.2.1 hn4 HE1.out.2.2.2).mono ?_); rintro e w1 ⟨vn, rfl, hvn, hbn⟩; have HEN : Hid (ElAt boolV 4 wB.heap.size w1 vn (longB pr ps n)) := Lib.hid (ElAt.own hvn); have HO3 := Lib.hid (owns_kept HO.out hbn); have HEL3 := Lib.hid (fun i => (HEL.out i).mono hbn); have HB3 := Lib.hid (HB.out.trans (hbn.mono hszd)); have hsz1 := HB3.out.size; generalize hM : n + 8 * ps.length = M at hvn; obtain ⟨an, cn, rfl, -, -⟩ := own_open hvn; clear hvn hbn HEL HO HLX HLY hM)
              | (refine step_append_lies _ rfl _ _ 105 rfl wB.heap.size 65 i0 (.slice none 0 0) 1 24 Tryd.underlying105 hi0 hz0 hz1 hz2 rfl (by decide) u6 k vs (by simp [Act.eval]) (HO3.out.alloc _) ⟨w1.heap.size, 0, none⟩ 1 1 [.slice an M cn] (by simp [Act.eval]) rfl (cell_one_new _ _ _) (fun x hx => by simp at hx; subst hx; rfl) (by decide) (by unfold maxLen; omega) (by omega) (by simp; omega) _ rfl ?_; intro g2 c2 w2 hown1 hgrow1 _ _; have hb2 := Lib.hid ((HB3.out.alloc hsz1 _).grown hgrow1 (by simp; omega) (fun k hk => (HO3.out.lt k hk).1)); have ho2 : Hid (MatOwn boolV 4 wB.heap.size 65 w2 _ (longsTo L n k ++ [longB pr ps n])) := Lib.hid (MatOwn.app (by decide) (by rw [HQ.out]; exact HO3.out) HEL3.out HEN.out (by rw [HQ.out]; exact hown1) hgrow1); clear hown1 hgrow1)))
          | fail
          all_goals
            go_wp2
            go_roundw
            case rel => exact ⟨k + 1, by omega, by go_num, by rw [HS.out]; exact ho2.out, hb2.out⟩
            case measure => simp [intOf]; omega
        · have hk' : k = L.length := by omega
          have HM := Lib.hid (MatOwn.at ⟨vs, hown, hel⟩)
          rw [hk', longsTo_all] at HM
          have HB := Lib.hid hbel
          obtain ⟨m, hm⟩ : ∃ m, m = n + 8 * size := ⟨_, rfl⟩
          have HRL : Hid (RowsLen (longsE L n) m) := Lib.hid (by rw [hm]; exact longsE_rows HOK.out)
          have HMM := Lib.hid hm
          clear hown hel hbel hm
          go_wp2_with fail
          refine (Gauss_gen _ (longsE L n) n m HM.out HRL.out (by have := HMM.out; omega) (by have := HMM.out; omega) (by rw [longsE_length]; omega)).mono ?_
          rintro e w3 ⟨v3, R, done, rfl, hv3, hgi, hb3⟩
          obtain ⟨hRl, hRr, ⟨p, hGI⟩, hSp⟩ := hgi
          rw [vecsB_longs] at hSp
          obtain ⟨i, hid, hix, hic, hio⟩ := hGI.tells (HCONS.out.congr (fun v => (hSp v).symm)) hcn (HX.out.congr (fun v => (hSp v).symm))
          have hdl : done ≤ R.length := by have := hGI.le; rwa [vecsB_length] at this
          rw [vecsB_getD] at hix hic
          have hio' : ∀ j, j < i → bitB (R.getD j []) cc = false := fun j hj => by
            have := hio j (by rw [vecsB_length]; omega) (by omega)
            rwa [vecsB_getD] at this
          have hPl : (R.take done).length = done := by rw [List.length_take]; omega
          have hPg : ∀ j, j < done → (R.take done).getD j [] = R.getD j [] := fun j hj => by
            rw [List.getD_eq_getElem?_getD, List.getD_eq_getElem?_getD, List.getElem?_take, if_pos hj]
          have HROW : Hid (∀ j, j < done → ∃ row, row = R.getD j [] ∧ row = (R.take done).getD j [] ∧ row.length = m) := Lib.hid fun j hj => ⟨_, rfl, (hPg j hj).symm, hRr j (by omega)⟩
          have HIX := Lib.hid hix
          have HIC := Lib.hid hic
          have HIO := Lib.hid hio'
          obtain ⟨a3, c3, rfl, hc3, -, hopen⟩ := hv3.opens
          rw [hPl] at hc3 hopen ⊢
          have HOP := Lib.hid hopen
          have HB3 := Lib.hid (HB.out.trans (hb3.mono HB.out.size))
          have HBW := Lib.hid (HBB1.out.trans (HB3.out.mono HBB1.out.size))
          have hd5 : done ≤ 4095 := by rw [hRl, longsE_length] at hdl; omega
          have hcm : cc < m := by have := HMM.out; omega
          have hnm : n ≤ m := by have := HMM.out; omega
          clear hopen hv3 hix hic hio hio' hPg hRr hRl hGI hSp hb3 hPl hdl hk' HM HRL
          go_wp2_with fail
          go_loopw [9] (fun ix wq => ∃ j : Nat, j ≤ i ∧ ix = .int .i64 j ∧ w3 = wq) (fun ix _ => i - (intOf ix).toNat)
          case atStart => exact ⟨0, Nat.zero_le _, rfl, rfl⟩
          case round =>
            obtain ⟨j, hj, rfl, rfl⟩ := hrel
            have hjd : j < done := by omega
            have hjI : (j : Int) < (done : Int) := by omega
            obtain ⟨b3, o3, rfl, hcc3⟩ := HOP.out (by omega)
            obtain ⟨xr, hxr, hlr⟩ := hcc3 j hjd
            obtain ⟨row, hr1, hr2, hr3⟩ := HROW.out j hjd
            rw [← hr2] at hlr
            have hlr2 := hlr
            obtain ⟨ar, cr, rfl, hcr, hcrm, hcellr⟩ := hlr
            rw [hr3] at hxr hcr
            obtain ⟨br, off2, rfl, hcr2⟩ := hcellr (by omega)
            have hcB : w3.cell? ⟨br, off2 + cc, none⟩ = some (.bool (bitB row cc)) := by
              have := hcr2 cc (by omega)
              rw [this]
              simp [bitB, boolV, List.getD_eq_getElem?_getD, show cc < row.length by omega]
            have HL2 := Lib.hid hlr2
            have HR3 := Lib.hid hr3
            clear hcc3 hlr2 hcellr hcr2 hr2
            by_cases hji : j < i
            · rw [hr1, HIO.out j hji] at hcB
              clear hr1 hr3
              go_wp2
              go_roundw
              case rel => exact ⟨j + 1, by omega, by go_num, trivial⟩
              case measure => simp [intOf]; omega
            · have hje : j = i := by omega
              subst hje
              rw [hr1, HIC.out] at hcB
              have hbx : bitB row = x := by rw [hr1]; exact HIX.out
              have HBX := Lib.hid hbx
              have hcn3 : w3.cell? ⟨w.heap.size, 0, none⟩ = some (.int .i64 (n : Int)) := (HSB1.out.mono HB3.out).1
              have HSX : Hid (∀ W, Below w3.heap.size w3 W → W.cell? ⟨w.heap.size, 0, none⟩ = some (.int .i64 (n : Int)) ∧ W.cell? ⟨b3, o3 + j, none⟩ = some (.slice (some ⟨br, off2, none⟩) m cr)) := Lib.hid fun W hW => ⟨(hW.cell (p := ⟨w.heap.size, 0, none⟩) (World.block_lt_of_cell? w3 _ hcn3)).trans hcn3, (hW.cell (p := ⟨b3, o3 + j, none⟩) (World.block_lt_of_cell? w3 _ hxr)).trans hxr⟩
              have HBD3 : Hid (Below w3.heap.size w3 w3.drew) := Lib.hid (Below.refl _ _).drew
              have HSX0 := Lib.hid (HSX.out _ HBD3.out)
              have HDR : Hid (ListAt boolV w3.drew (.slice (some ⟨br, off2 + n, none⟩) (m - n) (cr - n)) (row.drop n)) := Lib.hid (by
                have := (HL2.out.mono HBD3.out)
                have h2 := ListAt.drop this n (by rw [HR3.out]; exact hnm)
                rwa [HR3.out] at h2)
              have HDL : Hid ((row.drop n).length = 8 * size) := Lib.hid (by rw [List.length_drop, HR3.out]; have := HMM.out; omega)
              have hnI : (0 : Int) ≤ (n : Int) := by omega
              have hnmI : (n : Int) ≤ (m : Int) := by omega
              have hmcI : (m : Int) ≤ (cr : Int) := by omega
              have hcne : ¬ (cr = n) := by have := HMM.out; omega
              clear hr1 hr3 hbx
              go_wp2_with fail
              clear hcB hxr hcn3
              first
              | (
                go_region_held3 (fun w' => w'.cell? ⟨w.heap.size, 0, none⟩ = some (.int .i64 (n : Int)) ∧ w'.cell? ⟨b3, o3 + j, none⟩ = some (.slice (some ⟨br, off2, none⟩) m cr))
                  (first | exact HSX0.out | exact HSX.out _ HB4.out | go_keep)
                  (first
                  | (go_at_call 67; (with_reducible refine (bytes_any _ (row.drop n) size HDR.out HDL.out hsz64).mono ?_); rintro e w4 ⟨v4, rfl, ho4, hb4⟩; have HO4 := Lib.hid (ownsRow_base ho4 (Nat.le_trans HBW.out.size HBD3.out.size)); have HB4 := Lib.hid (HBD3.out.trans (hb4.mono HBD3.out.size)); obtain ⟨a4, c4, rfl, -, -⟩ := own_open ho4; clear ho4 hb4)))
              | fail
              all_goals
                go_wp2
                go_ret2
                exact ⟨_, rfl, by have := HO4.out; rw [bytes_sym HBX.out] at this; exact this, HBW.out.trans (HB4.out.mono HBW.out.size)⟩
end Go.Proofs.YtnkkaggepokjeaaDoor
