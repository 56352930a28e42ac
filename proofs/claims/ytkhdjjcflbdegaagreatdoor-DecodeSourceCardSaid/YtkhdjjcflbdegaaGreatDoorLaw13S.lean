/- The thirteenth layer's laws: DecodeSource. -/
import Derived.Test.YtkhdjjcflbdegaaGreatDoorH5
import Derived.Test.YtkhdjjcflbdegaaGreatDoorG28
import Derived.BigQuiet
import Derived.Deep.RegionHeldLaw
import Derived.Deep.RegionHeld3
namespace Go.Proofs.YtkhdjjcflbdegaaGreatDoor
open Go.RowKit Go.Extern.Stop Go.Stop Go.Extern

set_option maxRecDepth 1000000 in
set_option maxHeartbeats 20000000 in
theorem source13 {w : World} (many byI : Int) (hT : DgTab w) (hB : Tab w) :
    Calls Tryz.prog 6 #[.int .i64 many, .int .i64 byI] w fun e w' => e = .returned (.bool true) ∧ Below w.heap.size w w' := by
  have HT := Lib.hid hT
  have HBT := Lib.hid hB
  have HAW : Hid (∀ V, Below w.heap.size w V → Calls Tryz.prog 10 #[] V fun e w' => e = .returned (.bool true) ∧ Below V.heap.size V w') := Lib.hid fun V hV => awake13 V (PairsAt.mono hT hV) (hB.mono hV)
  clear hT hB
  obtain ⟨Y, hY⟩ : ∃ Y : Nat → List Nat, ∀ e, Y e = [e * 5 % 256] := ⟨fun e => [e * 5 % 256], fun _ => rfl⟩
  have HY := Lib.hid hY
  have HYO : Hid (∀ e, (Y e).length = 1 ∧ Octets (Y e)) := Lib.hid fun e => by rw [hY]; exact octets_one (Nat.mod_lt _ (by decide))
  clear hY
  obtain ⟨n, hnm, hn⟩ : ∃ n : Nat, (IntKind.u64.wrap many).tmod 128 = (n : Int) ∧ n ≤ 127 := by
    have h0 : 0 ≤ IntKind.u64.wrap many := by rw [IntKind.wrap_u64]; omega
    have e := Int.tmod_eq_emod_of_nonneg (b := 128) h0
    exact ⟨((IntKind.u64.wrap many) % 128).toNat, by rw [e]; omega, by omega⟩
  obtain ⟨k, hk⟩ : ∃ k, k = n + 1 := ⟨_, rfl⟩
  have hnk : (1 : Int) + (n : Int) = (k : Int) := by omega
  have hk1 : 1 ≤ k := by omega
  have hk2 : k ≤ 128 := by omega
  obtain ⟨c, hc, hck⟩ : ∃ c : Nat, (IntKind.u64.wrap byI).tmod (k : Int) = (c : Int) ∧ c < k := by
    have hw : 0 ≤ IntKind.u64.wrap byI := by rw [IntKind.wrap_u64]; omega
    have e : (IntKind.u64.wrap byI).tmod (k : Int) = (IntKind.u64.wrap byI) % (k : Int) := Int.tmod_eq_emod_of_nonneg hw
    have h0 : 0 ≤ (IntKind.u64.wrap byI) % (k : Int) := Int.emod_nonneg _ (by omega)
    have h4 : (IntKind.u64.wrap byI) % (k : Int) < (k : Int) := Int.emod_lt_of_pos _ (by omega)
    exact ⟨((IntKind.u64.wrap byI) % (k : Int)).toNat, by rw [e]; omega, by omega⟩
  clear hk
  go_enter Tryz.func6, Tryz.ntmps6
  go_wp2_with fail
  refine (rOf_any k hk1 hk2).mono ?_
  rintro e w1 ⟨s, h, l, p, rfl, hof, hb1⟩
  have HOF := Lib.hid hof
  obtain ⟨W, hW, hbW, hby⟩ := par_laid w1 k s h l p
  have HW := Lib.hid hW
  have HB1 := Lib.hid (hb1.trans (hbW.mono hb1.size))
  have HX1 := Lib.hid hby
  clear hof hW hbW hby hb1 hnm hnk hn
  unfold parV parC
  go_upto_region 2 with fail
  rw [← HW.out]
  obtain ⟨g1, hg1⟩ : ∃ g1, w1.heap.size = g1 := ⟨_, rfl⟩
  rw [hg1] at HX1 ⊢
  clear hg1
  obtain ⟨c0, c1, c2, c3, c4⟩ := HX1.out.cells
  go_wp2_with fail
  refine (DeNew_ok (w := W) k 1 hk1 hk2 (by decide) (by decide) (PairsAt.mono HT.out HB1.out) (HBT.out.mono HB1.out)).mono ?_
  rintro e w2 ⟨g, b, kb, s', h', l', p', sd, rfl, hd, hb2⟩
  obtain ⟨rfl, rfl, rfl, rfl⟩ := HOF.out.unique hd.of
  have HSD := Lib.hid hd.seed
  have HD2 := Lib.hid (hd.fresh Y)
  have HB2 := Lib.hid hb2
  clear c0 c1 c2 c3 c4
  have HRQ : Hid (∀ nd, Calls Tryz.prog 17 #[.pointer (some ⟨g, 0, none⟩)] (w2.drewN nd) fun e w' => e = .returned (.int .i64 ((s : Int) + (h : Int))) ∧ ∃ m, w' = (w2.drewN nd).drewN m) := Lib.hid fun nd => by
    have := DeRank_any (HD2.out.mono (below_draws (Below.refl _ _) nd))
    rw [show rkP l (sysD k s h l p sd 1 Y []) = s + h + 0 from rot_rk (c := 0) (j := 0) HOF.out HSD.out hk1 (by omega) (Nat.zero_le _)] at this
    exact this
  obtain ⟨c0, c1, c2, c3, c4⟩ := (HX1.out.mono hb2).cells
  have hsz2 : s ≤ 1000 ∧ h ≤ 1000 := by
    obtain ⟨b1, b2, b3, b4, b5, b6, b7⟩ := HOF.out.bounds hk1 hk2
    have := HOF.out.2.2.1
    omega
  obtain ⟨hs1000, hh1000⟩ := hsz2
  clear hd hb2
  go_wp2_with fail
  go_quiet (exact Calls.quiet_of (HRQ.out _))
  obtain ⟨w3, hw3⟩ : ∃ w3, w3 = w2.drewN nq := ⟨_, rfl⟩
  have HB3 : Hid (Below W.heap.size W w3) := Lib.hid (by rw [hw3]; exact below_draws HB2.out nq)
  have HD3 := Lib.hid (HD2.out.mono (show Below w2.heap.size w2 w3 by rw [hw3]; exact below_draws (Below.refl _ _) nq))
  rw [← hw3]
  clear hw3 c0 c1 c2 c3 c4 HRQ HD2 HB2
  go_wp2_with fail
  go_loopw [8] (fun i wr => ∃ j : Nat, j ≤ k ∧ i = .int .i64 j ∧ DecAt AnyB wr W.heap.size g b kb k s h l p sd 1 (sysD k s h l p sd 1 Y (rotL k c j)) false ∧ Below W.heap.size W wr) (fun i _ => k - (intOf i).toNat)
  case atStart => exact ⟨0, Nat.zero_le _, rfl, HD3.out, HB3.out⟩
  case round =>
    obtain ⟨j, hj, rfl, hd, hbel⟩ := hrel
    clear HD3 HB3
    have HD := Lib.hid hd
    have HBL := Lib.hid hbel
    by_cases hlt : j < k
    · have hconv : IntKind.u64.wrap (k : Int) = (k : Int) := by rw [IntKind.wrap_u64]; omega
      have hkz : ¬ (k : Int) = 0 := by omega
      obtain ⟨m, hmk⟩ : ∃ m, m = (j + c) % k := ⟨_, rfl⟩
      have HMK := Lib.hid hmk
      have hmlt : m < k := by rw [hmk]; exact Nat.mod_lt _ (by omega)
      have hmod : ((j : Int) + (c : Int)).tmod (k : Int) = (m : Int) := by rw [Int.tmod_eq_emod_of_nonneg (by omega), hmk]; push_cast; rfl
      have HRJ : Hid (rkP l (sysD k s h l p sd 1 Y (rotL k c j)) = s + h + j) := Lib.hid (rot_rk HOF.out HSD.out hk1 hck hj)
      have HLQ := Lib.hid HOF.out.2.2.1
      obtain ⟨c0, -, -, -, -⟩ := (HX1.out.mono hbel).cells
      clear hmk hd hbel
      go_wp2_with fail
      go_quiet (fail)
      obtain ⟨w4, hw4⟩ : ∃ w4, w4 = wr.drewN nq := ⟨_, rfl⟩
      have hb4 : Below wr.heap.size wr w4 := by rw [hw4]; exact below_draws (Below.refl _ _) nq
      have HB4 := Lib.hid (HBL.out.trans (hb4.mono HBL.out.size))
      have HD4 := Lib.hid (HD.out.mono hb4)
      rw [← hw4]
      clear hw4 hb4 c0 hconv hmod hkz
      obtain ⟨c0, -, -, -, -⟩ := (HX1.out.mono HB4.out).cells
      have HDN : Hid (∀ nd, Calls Tryz.prog 19 #[.pointer (some ⟨g, 0, none⟩)] (w4.drewN nd) fun e w' => e = .returned (.bool false) ∧ w' = w4.drewN nd) := Lib.hid fun nd => by
        have := DeDone_any (HD4.out.mono (below_draws (Below.refl _ _) nd))
        unfold doneB at this
        rw [HRJ.out, decide_eq_false (by have := HLQ.out; omega)] at this
        exact this.mono fun e w' h1 => ⟨h1.1, h1.2.symm⟩
      have HLK : Hid (∀ nd, Calls Tryz.prog 18 #[.pointer (some ⟨g, 0, none⟩)] (w4.drewN nd) fun e w' => e = .returned (.int .i64 ((k : Int) - (j : Int))) ∧ w' = w4.drewN nd) := Lib.hid fun nd => by
        have := DeLacks_any (HD4.out.mono (below_draws (Below.refl _ _) nd))
        rw [HRJ.out, show ((l - (s + h + j) : Nat) : Int) = (k : Int) - (j : Int) by have := HLQ.out; omega] at this
        exact this.mono fun e w' h1 => ⟨h1.1, h1.2.symm⟩
      go_wp2_with fail
      go_quiet (first | exact Calls.quiet_of_same (HDN.out _) | exact Calls.quiet_of_same (HLK.out _))
      obtain ⟨w5, hw5⟩ : ∃ w5, w5 = w4.drewN nq := ⟨_, rfl⟩
      have hb5 : Below w4.heap.size w4 w5 := by rw [hw5]; exact below_draws (Below.refl _ _) nq
      have HB5 := Lib.hid (HB4.out.trans (hb5.mono HB4.out.size))
      have HD5 := Lib.hid (HD4.out.mono hb5)
      rw [← hw5]
      clear hw5 hb5 c0 HDN HLK
      have hz5 : IntKind.u8.wrap ((m : Int) * 5) = ((m * 5 % 256 : Nat) : Int) := by rw [IntKind.wrap_u8]; push_cast; rfl
      obtain ⟨W6, hW6, hl6, hbW6⟩ := byte_at w5 (m * 5 % 256) ((m : Int) * 5 % 256) (by omega)
      have HW6 := Lib.hid hW6
      have hb6 := HB5.out.trans (hbW6.mono HB5.out.size)
      have HB6 := Lib.hid hb6
      have HAD : Hid (Calls Tryz.prog 16 #[.pointer (some ⟨g, 0, none⟩), .int .i64 (m : Int), .slice (some ⟨w5.heap.size, 0, none⟩) 1 1] W6 (RotAdds W6 W.heap.size g b kb k s h l p sd 1 c j Y)) := Lib.hid (by
        have := rot_add (HD5.out.mono hbW6) hck hlt (.slice (some ⟨w5.heap.size, 0, none⟩) 1 1) (by rw [← HMK.out, HY.out]; exact hl6) (HYO.out _) (PairsAt.mono HT.out (HB1.out.trans (hb6.mono HB1.out.size))) (HBT.out.mono (HB1.out.trans (hb6.mono HB1.out.size)))
        rw [← HMK.out] at this
        exact this)
      clear hW6 hl6 hbW6 hb6
      go_wp2_with fail
      rw [← HW6.out]
      refine HAD.out.mono ?_
      rintro e w7 ⟨rfl, ht7, hd7⟩
      have HB7 := Lib.hid (HB6.out.trans (ht7.below hd7.gg hd7.gb hd7.gk HB6.out.size))
      have HD7 := Lib.hid hd7
      clear ht7 hd7
      go_wp2
      go_roundw
      case rel => exact ⟨j + 1, by omega, by go_num, HD7.out, HB7.out⟩
      case measure => simp [intOf]; omega
    · obtain rfl : j = k := by omega
      have hrk : rkP l (sysD j s h l p sd 1 Y (rotL j c j)) = l := by rw [rot_rk HOF.out HSD.out hk1 hck (Nat.le_refl _)]; have := HOF.out.2.2.1; omega
      have HRK := Lib.hid hrk
      have HSR := Lib.hid (DeSrc_ok hd hrk (PairsAt.mono HT.out (HB1.out.trans (hbel.mono HB1.out.size))))
      obtain ⟨c0, -, -, -, -⟩ := (HX1.out.mono hbel).cells
      clear hd hbel hrk hlt
      go_wp2_with fail
      refine HSR.out.mono ?_
      rintro e w8 ⟨v8, U, rfl, htl, hm8, hb8⟩
      rw [rot_source HD.out hck (fun e _ => HYO.out e) htl] at hm8
      obtain ⟨S, hS⟩ : ∃ S, (List.range j).map Y = S := ⟨_, rfl⟩
      have hSl : S.length = j := by rw [← hS]; simp
      have HSJ : Hid (∀ i, i < j → S.getD i [] = [i * 5 % 256]) := Lib.hid fun i hi => by
        rw [← hS, ← HY.out, List.getD_eq_getElem?_getD, List.getElem?_map, List.getElem?_range hi]; rfl
      have HSL := Lib.hid hSl
      rw [hS] at hm8
      obtain ⟨a8, c8, rfl, -, -, ha8⟩ := hm8.opens
      rw [hSl] at hm8 ⊢
      have HM8 := Lib.hid hm8
      have hb08 := HBL.out.trans (hb8.mono HBL.out.size)
      have HB8 := Lib.hid hb08
      have HD8 := Lib.hid (HD.out.mono hb8)
      clear c0
      obtain ⟨c0, -, -, -, -⟩ := (HX1.out.mono hb08).cells
      clear htl hm8 hb8 hb08 ha8 hS hSl
      go_wp2_with fail
      refine (DeDone_any HD8.out).mono ?_
      rintro e wc ⟨rfl, rfl⟩
      have hdn : doneB l (sysD j s h l p sd 1 Y (rotL j c j)) false = true := by unfold doneB; rw [HRK.out]; simp
      rw [hdn]
      clear hdn
      go_wp2_with fail
      go_loopw [14] (fun i wr => ∃ t : Nat, t ≤ j ∧ i = .int .i64 t ∧ Below w8.heap.size w8 wr) (fun i _ => j - (intOf i).toNat)
      case atStart => exact ⟨0, Nat.zero_le _, rfl, Below.refl _ _⟩
      case round =>
        obtain ⟨t, ht, rfl, hbel⟩ := hrel
        have HBT2 := Lib.hid hbel
        have hb0 := HB8.out.trans (hbel.mono HB8.out.size)
        have HBZ0 := Lib.hid (HB1.out.trans (hb0.mono HB1.out.size))
        clear c0
        obtain ⟨c0, -, -, -, -⟩ := (HX1.out.mono hb0).cells
        by_cases hlt : t < j
        · obtain ⟨bl, ol, rfl, xl, hxl, hll⟩ := (HM8.out.mono hbel).rowAt (i := t) (by rw [HSL.out]; exact hlt)
          rw [HSJ.out t hlt] at hll
          obtain ⟨xa, xc, rfl, -, -, -⟩ := hll.bytes 1 rfl
          have hz5 : IntKind.u8.wrap ((t : Int) * 5) = ((t * 5 % 256 : Nat) : Int) := by rw [IntKind.wrap_u8]; push_cast; rfl
          obtain ⟨W9, hW9, hl9, hbW9⟩ := byte_at wr (t * 5 % 256) (IntKind.u8.wrap (IntKind.i64.wrap ((t : Int) * 5))) (by rw [IntWalk.i64_in _ (by omega), hz5])
          have hlb := World.block_lt_of_cell? wr _ hxl
          have hwd : Below wr.heap.size wr wr.drew := (Below.refl _ _).drew
          have HSAT : Hid (∀ Z, Below wr.heap.size wr Z → Z.cell? ⟨bl, ol + t, none⟩ = some (.slice xa 1 xc) ∧ (convert 37 9 (.slice xa 1 xc)).run Tryz.prog Z = .ok (.string (strN [t * 5 % 256])) Z) := Lib.hid fun Z hZ =>
            ⟨(hZ.cell (p := ⟨bl, ol + t, none⟩) hlb).trans hxl, (hll.mono hZ).str⟩
          have HSD0 := Lib.hid (HSAT.out _ hwd)
          have hwa : Below wr.heap.size wr (wr.alloc (.cells #[.int .u8 (IntKind.u8.wrap (IntKind.i64.wrap ((t : Int) * 5)))] 5)).drew := by rw [← hW9]; exact hbW9.drew
          have HSDA := Lib.hid (HSAT.out _ hwa)
          have hkn : (convert 37 9 (.slice (some ⟨wr.heap.size, 0, none⟩) 1 1)).run Tryz.prog (wr.alloc (.cells #[.int .u8 (IntKind.u8.wrap (IntKind.i64.wrap ((t : Int) * 5)))] 5)).drew = .ok (.string (strN [t * 5 % 256])) (wr.alloc (.cells #[.int .u8 (IntKind.u8.wrap (IntKind.i64.wrap ((t : Int) * 5)))] 5)).drew := by
            rw [← hW9]
            exact (hl9.mono (Below.refl _ _).drew).str
          have HB9 := Lib.hid (HBT2.out.trans (hwa.mono HBT2.out.size))
          clear hbel hb0 hll hW9 hl9 hbW9 hwd hwa hlb
          go_wp2_with fail
          go_region_held_law (fun w' => w'.cell? ⟨bl, ol + t, none⟩ = some (.slice xa 1 xc) ∧ (convert 37 9 (.slice xa 1 xc)).run Tryz.prog w' = .ok (.string (strN [t * 5 % 256])) w')
            (first | (with_reducible exact HSD0.out) | (with_reducible exact HSDA.out) | go_keep)
            (fail)
          all_goals go_wp2
          all_goals exact ⟨⟨t + 1, by omega, by go_num, (HBT2.out.alloc HBT2.out.size _).drew⟩, by simp [intOf]; omega⟩
        · obtain rfl : t = j := by omega
          clear hbel hb0 hlt
          go_wp2_with fail
          refine (HAW.out _ HBZ0.out).mono ?_
          rintro e wz ⟨rfl, hbz⟩
          have HBZ := Lib.hid (HBZ0.out.trans (hbz.mono HBZ0.out.size))
          clear hbz
          go_wp2
          go_ret
          exact ⟨rfl, HBZ.out⟩
end Go.Proofs.YtkhdjjcflbdegaaGreatDoor
