import Derived.Test.YtkfimdpcadbcpaaGreatDoorA25
import Derived.Test.YtkfimdpcadbcpaaGreatDoorA18
import Derived.Test.YtkfimdpcadbcpaaGreatDoorA01
set_option linter.unusedSimpArgs false
set_option linter.unusedVariables false
set_option maxRecDepth 1000000
set_option maxHeartbeats 8000000
namespace Go.Proofs.YtkfimdpcadbcpaaGreatDoor
section
open Go.RowKit Go.Extern.Stop Go.Stop Go.Extern
theorem zIw (hRow : CaRowC) (hEs : StEsisC) (hPut : WrPutC) (hBurst : CaBurstC) (hSync : CaSyncC) {w : World} {lo g : Nat} {S : Snd} {L : Value} {t : Nat} (h : SdBox w g S L t) (he : EncsAt w lo L S) (hS : SndOk S) (ht : t ≤ 1099511627774) (hT : DgTab w) :
    Calls Tryz.prog 42 #[.pointer (some ⟨g, 0, none⟩)] w fun e w' => ∃ v, e = .returned (.tuple #[v, .nilIface]) ∧ RecsOwn 2 DgElN w.heap.size w.heap.size 67 w' v (tickL S t) ∧ Below w.heap.size w w' := by
  obtain ⟨i0, hi, hz0, hz1, hz2⟩ := info_parts zGR
  have HSC : Hid (∀ V, Below w.heap.size w V → RsCells V g S L t) := lhd fun V hV => (h.mono hV).cells
  have HAN : Hid (∀ V, Below w.heap.size w V → Calls Tryz.prog 68 #[.pointer (some ⟨g, 0, none⟩)] V fun e w' => e = .returned (.agg (pktC (annP S t) nilS)) ∧ Below V.heap.size V w') := lhd fun V hV => zI3 (h.mono hV)
  have HLA : Hid (∀ V : World, Calls Tryz.prog 67 #[.agg (pktC (annP S t) nilS)] V fun e w' => ∃ v', e = .returned (.tuple #[.agg #[.int .i64 0, v'], .nilIface]) ∧ w'.ownsRow V.heap.size 5 1 v' (putP (annP S t)).length ((putP (annP S t)).map byteV) ∧ Below V.heap.size V w') := lhd fun V => zFd hPut (annP S t) nilS (ListAt.nil byteV _) (zJf hS (by omega)) (zIg hS (by omega))
  have HHD : Hid (∀ V, Below w.heap.size w V → Calls Tryz.prog 69 #[.pointer (some ⟨g, 0, none⟩)] V fun e w' => e = .returned (.tuple #[.agg (pktC (headP S t) nilS), .nilIface]) ∧ Below V.heap.size V w') := lhd fun V hV => zHI hBurst hSync (h.mono hV) hS ht
  have HDT : Hid (∀ V k, k < S.g → Below w.heap.size w V → Calls Tryz.prog 70 #[.pointer (some ⟨g, 0, none⟩), .agg (pktC (layH S t k) nilS)] V fun e w' => ∃ v, e = .returned (.tuple #[v, .nilIface]) ∧ RecsOwn 2 DgElN V.heap.size V.heap.size 67 w' v ((layP S t k).map pgOf) ∧ Below V.heap.size V w') := lhd fun V k hk hV => zHQ hRow hEs hPut (h.mono hV) (he.mono hV) hS ht hk (PairsAt.mono hT hV)
  have hg8 := hS.g8
  have hg1 := hS.g1
  have he1 := hS.e1
  have HLN : Hid (∀ k, k ≤ S.g → (annL S t ++ flatP S t k).length ≤ 1 + 8 * 4096) := lhd fun k hk => by
    have : ∀ K, K ≤ S.g → (flatP S t K).length ≤ K * 4096 := by
      intro K
      induction K with
      | zero => intro _; simp [flatP]
      | succ K ih =>
        intro hK
        rw [zBA, List.length_append, zDd]
        have := ih (by omega)
        have := (hS.many (t := t) (show K < S.g by omega)).2
        omega
    have h1 := this k hk
    rw [List.length_append]
    rcases zJj S t with ⟨-, h⟩ | ⟨-, h⟩ <;> rw [h] <;> simp <;> omega
  have HLL : Hid (∀ k, k < S.g → (layP S t k).length ≤ 4096) := lhd fun k hk => by rw [zDd]; exact (hS.many hk).2
  have hev : ((S.every : Int) == 0) = false := by simp; omega
  have hev2 : ¬ (S.every : Int) = 0 := by omega
  have hev3 : ¬ S.every = 0 := by omega
  have hem : (t : Int) % (S.every : Int) = ((t % S.every : Nat) : Int) := (Int.natCast_emod ..).symm
  have htm : (t : Int).tmod (S.every : Int) = ((t % S.every : Nat) : Int) := Int.ofNat_tmod ..
  have HANW : Hid (annL S t = if t % S.every = 0 then [annP S t] else []) := lhd rfl
  have HPK : Hid ((annL S t ++ flatP S t S.g).map pgOf = tickL S t) := lhd rfl
  have HBR := lhd (Below.refl w.heap.size w)
  clear h he hS hT
  by_cases hq : t % S.every = 0
  · have dq : ((t : Int) % (S.every : Int) == 0) = true := by rw [hem, hq]; rfl
    have dq2 : ((t : Int).tmod (S.every : Int) == 0) = true := by rw [htm, hq]; rfl
    have HA1 : Hid ((annL S t).map pgOf = [pgOf (annP S t)]) := lhd (by rw [HANW.out, if_pos hq]; rfl)
    clear hq hem htm
    go_enter Tryz.func42, Tryz.ntmps42
    go_upto_region 2 with fail
    have HBD0 : Below w.heap.size w w.drew := HBR.out.drew
    refine wp_region_held_drew (S := fun V => Below w.heap.size w V) (by kernel_rfl) HBD0 (fun _ => ?_)
    (refine wpAnyH_take (i := 0) (v := ?_) rfl (by kernel_rfl) (by kernel_rfl) (by kernel_rfl) (fun _ _ _ h => h) (Or.inl ⟨by rfl, ?_⟩) HBD0 ?_; rotate_left; (focus (intro V hV; go_simp; first | done | with_reducible rfl)); (try simp only [nrz, Act.put]); refine wpAnyH_take (i := 1) (v := ?_) rfl (by kernel_rfl) (by kernel_rfl) (by kernel_rfl) (fun _ _ _ h => h) (Or.inl ⟨by rfl, ?_⟩) HBD0 ?_; rotate_left; (focus (intro V hV; go_simp; first | done | with_reducible rfl)); (try simp only [nrz, Act.put]); refine wpAnyH_take (i := 2) (v := ?_) rfl (by kernel_rfl) (by kernel_rfl) (by kernel_rfl) (fun _ _ _ h => h) (Or.inl ⟨by rfl, ?_⟩) HBD0 ?_; rotate_left; (focus (intro V hV; go_simp; first | done | with_reducible rfl)); (try simp only [nrz, Act.put]); refine wpAnyH_take (i := 4) (v := ?_) rfl (by kernel_rfl) (by kernel_rfl) (by kernel_rfl) (fun _ _ _ h => h) (Or.inl ⟨by rfl, ?_⟩) HBD0 ?_; rotate_left; (focus (intro V hV; go_simp; first | done | with_reducible rfl)); (try simp only [nrz, Act.put]); refine wpAnyH_take (i := 5) (v := ?_) rfl (by kernel_rfl) (by kernel_rfl) (by kernel_rfl) (fun _ _ _ h => h) (Or.inl ⟨by rfl, ?_⟩) HBD0 ?_; rotate_left; (focus (intro V hV; go_simp; first | done | with_reducible rfl)); (try simp only [nrz, Act.put]); refine wpAnyH_take (i := 6) (v := ?_) rfl (by kernel_rfl) (by kernel_rfl) (by kernel_rfl) (fun _ _ _ h => h) (Or.inl ⟨by rfl, ?_⟩) HBD0 ?_; rotate_left; (focus (intro V hV; go_simp; first | done | with_reducible rfl)); (try simp only [nrz, Act.put]); refine wpAnyH_take (i := 7) (v := ?_) rfl (by kernel_rfl) (by kernel_rfl) (by kernel_rfl) (fun _ _ _ h => h) (Or.inl ⟨by rfl, ?_⟩) HBD0 ?_; rotate_left; (focus (intro V hV; go_simp; first | done | with_reducible rfl)); (try simp only [nrz, Act.put]); refine wpAnyH_take (i := 3) (v := .int .i64 (t : Int)) rfl (by kernel_rfl) (by kernel_rfl) (by kernel_rfl) (fun _ _ _ h => h) (Or.inl ⟨by rfl, ?_⟩) HBD0 ?_; (focus (intro V hV; have c := (HSC.out V hV).c14; go_simp)); (try simp only [nrz, Act.put]); refine wpAnyH_take (i := 8) (v := .int .i64 (S.every : Int)) rfl (by kernel_rfl) (by kernel_rfl) (by kernel_rfl) (fun _ _ _ h => h) (Or.inl ⟨by rfl, ?_⟩) HBD0 ?_; (focus (intro V hV; have c := (HSC.out V hV).c7; go_simp)); (try simp only [nrz, Act.put]); refine wpAnyH_take (i := 9) (v := ?_) rfl (by kernel_rfl) (by kernel_rfl) (by kernel_rfl) (fun _ _ _ h => h) (Or.inl ⟨by rfl, ?_⟩) HBD0 ?_; rotate_left; (focus (intro V hV; go_simp; first | done | with_reducible rfl)); (try simp only [nrz, Act.put]); refine wpAnyH_take (i := 10) (v := ?_) rfl (by kernel_rfl) (by kernel_rfl) (by kernel_rfl) (fun _ _ _ h => h) (Or.inl ⟨by rfl, ?_⟩) HBD0 ?_; rotate_left; (focus (intro V hV; go_simp; first | done | with_reducible rfl)); (try simp only [nrz, Act.put]))
    all_goals refine wpAnyH_done (by kernel_rfl) ?_ _
    go_wp2_with fail
    with_reducible refine (HAN.out _ HBR.out.drew).mono ?_
    rintro e w2 ⟨rfl, hb2⟩
    have HB2 := lhd (HBR.out.drew.trans (hb2.mono HBR.out.drew.size))
    clear hb2
    go_wp2_with fail
    with_reducible refine (HLA.out _).mono ?_
    rintro e w3 ⟨v3, rfl, ho3, hb3⟩
    have HB3 := lhd (HB2.out.trans (hb3.mono HB2.out.size))
    have HO3 := lhd ho3
    obtain ⟨a3, c3, hv3, -, -⟩ := zAe ho3
    subst hv3
    obtain ⟨w4, hw4⟩ : ∃ W, W = w3.alloc (.cells #[.int .i64 0, .slice a3 (putP (annP S t)).length c3] 67) := ⟨_, rfl⟩
    have hb4 : Below w3.heap.size w3 w4 := by rw [hw4]; exact (Below.refl _ _).alloc (Nat.le_refl _) _
    have HB4 := lhd (HB3.out.trans (hb4.mono HB3.out.size))
    have HX4 : Hid (w4.heap[w3.heap.size]? = some (.cells #[.int .i64 0, .slice a3 (putP (annP S t)).length c3] 67 (0, 0))) := lhd (by rw [hw4]; exact heap_alloc_new _ _)
    have HE4 : Hid (DgElN w.heap.size w4 (#[.int .i64 0, .slice a3 (putP (annP S t)).length c3] : Array Value).toList (pgOf (annP S t))) := lhd ⟨_, rfl, ElAt.own (zAh HO3.out hb4), fun b hb => Nat.le_trans HB2.out.size (HO3.out.lt b hb).1⟩
    have HZ4 := lhd HB4.out.size
    have HS0 : Hid (RecsOwn 2 DgElN w.heap.size w.heap.size 67 w4 nilS []) := lhd (RecsOwn.zero _ _ _ _)
    have HW4 : Hid (w3.alloc (.cells #[.int .i64 0, .slice a3 (putP (annP S t)).length c3] 67) = w4) := lhd hw4.symm
    clear ho3 hb3 hb4 hw4
    go_upto_region 4 with ((with_reducible show wpList _ _ _ (⟨none, _, _, _, _, _⟩ :: _) _ _); refine zAf #[.int .i64 0, .slice a3 (putP (annP S t)).length c3] rfl 67 (.tmp 5) (.tmp 27) rfl rfl rfl (by kernel_rfl) (by rfl) (by kernel_rfl) ?_)
    rw [HW4.out]
    go_wp2_with (first
      | ((with_reducible show wpList _ _ _ (⟨some 33, _, _, _, _, _⟩ :: _) _ _); refine wpList_load_row rfl 67 (.tmp 5) rfl w3.heap.size rfl 67 _ (0, 0) _ HX4.out Tryz.underlying67 rfl (by kernel_rfl) ?_)
      | ((with_reducible show wpList _ _ _ (⟨some 35, _, _, _, _, _⟩ :: _) _ _); refine zCl zA4 w4 rfl (.tmp 32) (.tmp 34) 46 rfl w.heap.size w.heap.size (Nat.le_refl _) 67 (by unfold TByte; decide) i0 _ 32 Tryz.underlying46 hi hz0 hz1 hz2 rfl nilS [] rfl HS0.out #[.int .i64 0, .slice a3 (putP (annP S t)).length c3] (pgOf (annP S t)) HE4.out rfl (by decide) (by decide) HZ4.out ?_; intro v5 w5 ho5 hg5; have HO5 := lhd ho5; have HG5 := lhd hg5; clear ho5 hg5))
    have HB5 : Hid (Below w.heap.size w w5) := lhd ((HB4.out.alloc HZ4.out _).grown HG5.out (by rw [World.size_alloc]; have := HZ4.out; omega) (fun k' hk' => by simp [Value.ownBlock] at hk'))
    have HO5' : Hid (RecsOwn 2 DgElN w.heap.size w.heap.size 67 w5 v5 ((annL S t ++ flatP S t 0).map pgOf)) := lhd (by rw [show flatP S t 0 = [] from rfl, List.append_nil, HA1.out]; exact HO5.out)
    clear HO5 HG5 HE4 HX4 HO3 HS0
    go_wp2_with fail
    with_reducible refine (HHD.out _ HB5.out).mono ?_
    rintro e w6 ⟨rfl, hb6⟩
    have HB6 := lhd (HB5.out.trans (hb6.mono HB5.out.size))
    obtain ⟨w7, hw7, hb7, hx7⟩ := zAz w6 (headP S t) nilS
    have HW7 := lhd hw7
    have HB7 := lhd (HB6.out.trans (hb7.mono HB6.out.size))
    have HST := lhd ((HO5'.out.mono zA4 hb6).mono zA4 hb7)
    obtain ⟨gh, hgh⟩ : ∃ gh, gh = w6.heap.size := ⟨_, rfl⟩
    have HGH : Hid (w.heap.size ≤ gh) := lhd (by rw [hgh]; exact HB6.out.size)
    rw [← hgh] at hx7
    have HX7 := lhd hx7
    have c1 := (HSC.out _ HB7.out).c1
    clear hw7 hb7 hx7 hb6
    go_upto_region 8 with ((with_reducible show wpList _ _ _ (⟨none, _, _, _, _, _⟩ :: _) _ _); refine zAf (pktC (headP S t) nilS) rfl 63 (.tmp 7) (.tmp 39) rfl rfl rfl (by kernel_rfl) (by rfl) (by kernel_rfl) ?_)
    have HW8 : Hid (w6.alloc (.cells (pktC (headP S t) nilS) 63) = w7) := lhd HW7.out.symm
    rw [HW8.out, ← hgh]
    clear hgh
    go_wp2_with fail
    go_loopw [4, 49] (fun o i wr => ∃ k : Nat, k ≤ S.g ∧ i = .int .i64 (k : Int) ∧ RecsOwn 2 DgElN w.heap.size w.heap.size 67 wr o ((annL S t ++ flatP S t k).map pgOf) ∧ (∃ c : Int, PktBox wr gh { headP S t with layer := c } nilS) ∧ Below w.heap.size w wr) (fun _ i _ => S.g - (intOf i).toNat)
    case atStart => exact ⟨0, Nat.zero_le _, rfl, HST.out, ⟨0, HX7.out⟩, HB7.out⟩
    case round =>
      obtain ⟨k, hk, rfl, hown, ⟨c, hbox⟩, hbel⟩ := hrel
      have HO := lhd hown
      have HB := lhd hbel
      have HBX := lhd hbox
      by_cases hlt : k < S.g
      · have d1 : decide ((k : Int) < (S.g : Int)) = true := decide_eq_true (by omega)
        have hll := HLL.out k hlt
        have hln := HLN.out k hk
        have HSN : Hid (annL S t ++ flatP S t (k + 1) = (annL S t ++ flatP S t k) ++ layP S t k) := lhd (by rw [zBA, List.append_assoc])
        obtain ⟨ao, co, rfl, -⟩ := hown.opened
        have HDA := lhd fun V => HDT.out V k hlt
        generalize annL S t ++ flatP S t k = F at *
        generalize layP S t k = LP at *
        have c2 : wr.cell? ⟨gh, 2, none⟩ = some (.int .i64 c) := zAa hbox rfl
        have f2 := zAb (j := 2) hbox
        obtain ⟨q, hq⟩ : ∃ q, q = (F.map pgOf).length := ⟨_, rfl⟩
        have hqF : q = F.length := by rw [hq, List.length_map]
        rw [← hq] at HO ⊢
        have HQ := lhd hq
        rw [← hqF] at hln
        clear hown hbel hbox hq hqF
        go_upto_region 14 with fail
        obtain ⟨X1, hX1⟩ : ∃ W, W = wr.setCell ⟨gh, 2, none⟩ (.int .i64 (k : Int)) := ⟨_, rfl⟩
        rw [← hX1]
        have HB1 : Hid (Below w.heap.size w X1) := lhd (by rw [hX1]; exact HB.out.setCell (p := ⟨gh, 2, none⟩) HGH.out _)
        have HP1 : Hid (PktBox X1 gh (layH S t k) nilS) := lhd (by rw [hX1]; exact HBX.out.set 2 _ _ _ rfl)
        have HO1 : Hid (RecsOwn 2 DgElN w.heap.size w.heap.size 67 X1 (.slice ao q co) (F.map pgOf)) := lhd (by
          rw [hX1]
          have hbo := HBX.out
          unfold PktBox at hbo
          refine RecsOwn.turned zA4 HO.out (fun g cur hg => Below.heap_setCell _ _ _ _ ?_) (fun b _ hb => Below.heap_setCell _ _ _ _ ?_)
          · show g ≠ gh
            rintro rfl
            rw [hbo] at hg
            simp at hg
          · show b ≠ gh
            rintro rfl
            rcases hb with hb | ⟨t', cur', rfl, hb⟩
            · have := HGH.out; omega
            · rw [hbo] at hb
              simp at hb)
        clear hX1 c2 f2 HO HBX HB
        go_wp2_with ((with_reducible show wpList _ _ _ (⟨some 56, _, _, _, _, _⟩ :: _) _ _); refine wpList_load_row rfl 63 (.tmp 7) rfl gh rfl 63 (pktC (layH S t k) nilS) (0, 0) _ HP1.out Tryz.underlying63 rfl (by kernel_rfl) ?_)
        with_reducible refine (HDA.out X1 HB1.out).mono ?_
        rintro e X2 ⟨v5, rfl, ho5, hb5⟩
        have HB2 := lhd (HB1.out.trans (hb5.mono HB1.out.size))
        have HO2 := lhd (HO1.out.mono zA4 hb5)
        have HP2 := lhd (HP1.out.mono hb5)
        have ho5' := zDQ ho5 HB1.out.size HB1.out.size
        have HA2 := lhd ho5'.at
        have HZ2 := lhd HB2.out.size
        obtain ⟨a5, c5, hv5, -⟩ := ho5.opened
        subst hv5
        obtain ⟨q5, hq5⟩ : ∃ q, q = (LP.map pgOf).length := ⟨_, rfl⟩
        have hqL : q5 = LP.length := by rw [hq5, List.length_map]
        rw [← hq5] at HA2 ⊢
        have HQ5 := lhd hq5
        rw [← hqL] at hll
        clear ho5 ho5' hb5 hq5 hqL
        go_wp2_with ((with_reducible show wpList _ _ _ (⟨some 65, _, _, _, _, _⟩ :: _) _ _); refine zAG zA4 X2 rfl (.tmp 63) (.tmp 64) 46 rfl w.heap.size w.heap.size (Nat.le_refl _) 67 (by unfold TByte; decide) i0 _ 32 Tryz.underlying46 hi hz0 hz1 hz2 rfl (.slice ao q co) (F.map pgOf) rfl HO2.out (.slice a5 q5 c5) (LP.map pgOf) rfl HA2.out (by rw [← HQ.out, ← HQ5.out]; unfold maxLen; omega) (by rw [← HQ.out, ← HQ5.out]; omega) HZ2.out ?_; intro v9 w9 ho9 hg9; have HO9 := lhd ho9; have HG9 := lhd hg9; clear ho9 hg9)
        have HP9 : Hid (PktBox w9 gh (layH S t k) nilS) := lhd (by
          obtain ⟨cs5, hcs5, -⟩ := HO2.out
          have hp2 := HP2.out
          refine (HG9.out.block gh hp2.lt fun hv => ?_).trans hp2
          rcases hcs5.2 with ⟨e1, _⟩ | ⟨g', cap, cur, e1, _, hg', _⟩
          · rw [e1] at hv; simp [Value.ownBlock] at hv
          · rw [e1] at hv
            have : gh = g' := by simpa [Value.ownBlock] using hv
            rw [this] at hp2
            unfold PktBox at hp2
            rw [hp2] at hg'
            simp at hg')
        obtain ⟨cs5, hcs5, -⟩ := HO2.out
        refine ⟨⟨k + 1, by omega, by go_num, by rw [HSN.out, List.map_append]; exact HO9.out, ⟨k, HP9.out⟩, HB2.out.grown HG9.out HZ2.out (fun k' hk' => (hcs5.lt k' hk').1)⟩, by simp [intOf]; omega⟩
      · obtain rfl : k = S.g := by omega
        have d1 : decide ((S.g : Int) < (S.g : Int)) = false := decide_eq_false (by omega)
        rw [HPK.out] at HO
        clear hown hbel hbox
        go_wp2
        go_ret2
        exact ⟨_, rfl, HO.out, HB.out⟩
  · have dq : ((t : Int) % (S.every : Int) == 0) = false := by rw [hem]; simp; omega
    have dq2 : ((t : Int).tmod (S.every : Int) == 0) = false := by rw [htm]; simp; omega
    have HO0 : Hid (RecsOwn 2 DgElN w.heap.size w.heap.size 67 w.drew nilS ((annL S t ++ flatP S t 0).map pgOf)) := lhd (by rw [HANW.out, if_neg hq]; exact RecsOwn.zero _ _ _ _)
    have HBD := lhd HBR.out.drew
    clear hq hem htm
    go_enter Tryz.func42, Tryz.ntmps42
    go_upto_region 2 with fail
    have HBD0 : Below w.heap.size w w.drew := HBR.out.drew
    refine wp_region_held_drew (S := fun V => Below w.heap.size w V) (by kernel_rfl) HBD0 (fun _ => ?_)
    (refine wpAnyH_take (i := 0) (v := ?_) rfl (by kernel_rfl) (by kernel_rfl) (by kernel_rfl) (fun _ _ _ h => h) (Or.inl ⟨by rfl, ?_⟩) HBD0 ?_; rotate_left; (focus (intro V hV; go_simp; first | done | with_reducible rfl)); (try simp only [nrz, Act.put]); refine wpAnyH_take (i := 1) (v := ?_) rfl (by kernel_rfl) (by kernel_rfl) (by kernel_rfl) (fun _ _ _ h => h) (Or.inl ⟨by rfl, ?_⟩) HBD0 ?_; rotate_left; (focus (intro V hV; go_simp; first | done | with_reducible rfl)); (try simp only [nrz, Act.put]); refine wpAnyH_take (i := 2) (v := ?_) rfl (by kernel_rfl) (by kernel_rfl) (by kernel_rfl) (fun _ _ _ h => h) (Or.inl ⟨by rfl, ?_⟩) HBD0 ?_; rotate_left; (focus (intro V hV; go_simp; first | done | with_reducible rfl)); (try simp only [nrz, Act.put]); refine wpAnyH_take (i := 4) (v := ?_) rfl (by kernel_rfl) (by kernel_rfl) (by kernel_rfl) (fun _ _ _ h => h) (Or.inl ⟨by rfl, ?_⟩) HBD0 ?_; rotate_left; (focus (intro V hV; go_simp; first | done | with_reducible rfl)); (try simp only [nrz, Act.put]); refine wpAnyH_take (i := 5) (v := ?_) rfl (by kernel_rfl) (by kernel_rfl) (by kernel_rfl) (fun _ _ _ h => h) (Or.inl ⟨by rfl, ?_⟩) HBD0 ?_; rotate_left; (focus (intro V hV; go_simp; first | done | with_reducible rfl)); (try simp only [nrz, Act.put]); refine wpAnyH_take (i := 6) (v := ?_) rfl (by kernel_rfl) (by kernel_rfl) (by kernel_rfl) (fun _ _ _ h => h) (Or.inl ⟨by rfl, ?_⟩) HBD0 ?_; rotate_left; (focus (intro V hV; go_simp; first | done | with_reducible rfl)); (try simp only [nrz, Act.put]); refine wpAnyH_take (i := 7) (v := ?_) rfl (by kernel_rfl) (by kernel_rfl) (by kernel_rfl) (fun _ _ _ h => h) (Or.inl ⟨by rfl, ?_⟩) HBD0 ?_; rotate_left; (focus (intro V hV; go_simp; first | done | with_reducible rfl)); (try simp only [nrz, Act.put]); refine wpAnyH_take (i := 3) (v := .int .i64 (t : Int)) rfl (by kernel_rfl) (by kernel_rfl) (by kernel_rfl) (fun _ _ _ h => h) (Or.inl ⟨by rfl, ?_⟩) HBD0 ?_; (focus (intro V hV; have c := (HSC.out V hV).c14; go_simp)); (try simp only [nrz, Act.put]); refine wpAnyH_take (i := 8) (v := .int .i64 (S.every : Int)) rfl (by kernel_rfl) (by kernel_rfl) (by kernel_rfl) (fun _ _ _ h => h) (Or.inl ⟨by rfl, ?_⟩) HBD0 ?_; (focus (intro V hV; have c := (HSC.out V hV).c7; go_simp)); (try simp only [nrz, Act.put]); refine wpAnyH_take (i := 9) (v := ?_) rfl (by kernel_rfl) (by kernel_rfl) (by kernel_rfl) (fun _ _ _ h => h) (Or.inl ⟨by rfl, ?_⟩) HBD0 ?_; rotate_left; (focus (intro V hV; go_simp; first | done | with_reducible rfl)); (try simp only [nrz, Act.put]); refine wpAnyH_take (i := 10) (v := ?_) rfl (by kernel_rfl) (by kernel_rfl) (by kernel_rfl) (fun _ _ _ h => h) (Or.inl ⟨by rfl, ?_⟩) HBD0 ?_; rotate_left; (focus (intro V hV; go_simp; first | done | with_reducible rfl)); (try simp only [nrz, Act.put]))
    all_goals refine wpAnyH_done (by kernel_rfl) ?_ _
    go_wp2_with fail
    with_reducible refine (HHD.out _ HBD.out).mono ?_
    rintro e w6 ⟨rfl, hb6⟩
    have HB6 := lhd (HBD.out.trans (hb6.mono HBD.out.size))
    obtain ⟨w7, hw7, hb7, hx7⟩ := zAz w6 (headP S t) nilS
    have HW7 := lhd hw7
    have HB7 := lhd (HB6.out.trans (hb7.mono HB6.out.size))
    have HST := lhd ((HO0.out.mono zA4 hb6).mono zA4 hb7)
    obtain ⟨gh, hgh⟩ : ∃ gh, gh = w6.heap.size := ⟨_, rfl⟩
    have HGH : Hid (w.heap.size ≤ gh) := lhd (by rw [hgh]; exact HB6.out.size)
    rw [← hgh] at hx7
    have HX7 := lhd hx7
    have c1 := (HSC.out _ HB7.out).c1
    clear hw7 hb7 hx7 hb6
    go_upto_region 8 with ((with_reducible show wpList _ _ _ (⟨none, _, _, _, _, _⟩ :: _) _ _); refine zAf (pktC (headP S t) nilS) rfl 63 (.tmp 7) (.tmp 39) rfl rfl rfl (by kernel_rfl) (by rfl) (by kernel_rfl) ?_)
    have HW8 : Hid (w6.alloc (.cells (pktC (headP S t) nilS) 63) = w7) := lhd HW7.out.symm
    rw [HW8.out, ← hgh]
    clear hgh
    go_wp2_with fail
    go_loopw [4, 49] (fun o i wr => ∃ k : Nat, k ≤ S.g ∧ i = .int .i64 (k : Int) ∧ RecsOwn 2 DgElN w.heap.size w.heap.size 67 wr o ((annL S t ++ flatP S t k).map pgOf) ∧ (∃ c : Int, PktBox wr gh { headP S t with layer := c } nilS) ∧ Below w.heap.size w wr) (fun _ i _ => S.g - (intOf i).toNat)
    case atStart => exact ⟨0, Nat.zero_le _, rfl, HST.out, ⟨0, HX7.out⟩, HB7.out⟩
    case round =>
      obtain ⟨k, hk, rfl, hown, ⟨c, hbox⟩, hbel⟩ := hrel
      have HO := lhd hown
      have HB := lhd hbel
      have HBX := lhd hbox
      by_cases hlt : k < S.g
      · have d1 : decide ((k : Int) < (S.g : Int)) = true := decide_eq_true (by omega)
        have hll := HLL.out k hlt
        have hln := HLN.out k hk
        have HSN : Hid (annL S t ++ flatP S t (k + 1) = (annL S t ++ flatP S t k) ++ layP S t k) := lhd (by rw [zBA, List.append_assoc])
        obtain ⟨ao, co, rfl, -⟩ := hown.opened
        have HDA := lhd fun V => HDT.out V k hlt
        generalize annL S t ++ flatP S t k = F at *
        generalize layP S t k = LP at *
        have c2 : wr.cell? ⟨gh, 2, none⟩ = some (.int .i64 c) := zAa hbox rfl
        have f2 := zAb (j := 2) hbox
        obtain ⟨q, hq⟩ : ∃ q, q = (F.map pgOf).length := ⟨_, rfl⟩
        have hqF : q = F.length := by rw [hq, List.length_map]
        rw [← hq] at HO ⊢
        have HQ := lhd hq
        rw [← hqF] at hln
        clear hown hbel hbox hq hqF
        go_upto_region 14 with fail
        obtain ⟨X1, hX1⟩ : ∃ W, W = wr.setCell ⟨gh, 2, none⟩ (.int .i64 (k : Int)) := ⟨_, rfl⟩
        rw [← hX1]
        have HB1 : Hid (Below w.heap.size w X1) := lhd (by rw [hX1]; exact HB.out.setCell (p := ⟨gh, 2, none⟩) HGH.out _)
        have HP1 : Hid (PktBox X1 gh (layH S t k) nilS) := lhd (by rw [hX1]; exact HBX.out.set 2 _ _ _ rfl)
        have HO1 : Hid (RecsOwn 2 DgElN w.heap.size w.heap.size 67 X1 (.slice ao q co) (F.map pgOf)) := lhd (by
          rw [hX1]
          have hbo := HBX.out
          unfold PktBox at hbo
          refine RecsOwn.turned zA4 HO.out (fun g cur hg => Below.heap_setCell _ _ _ _ ?_) (fun b _ hb => Below.heap_setCell _ _ _ _ ?_)
          · show g ≠ gh
            rintro rfl
            rw [hbo] at hg
            simp at hg
          · show b ≠ gh
            rintro rfl
            rcases hb with hb | ⟨t', cur', rfl, hb⟩
            · have := HGH.out; omega
            · rw [hbo] at hb
              simp at hb)
        clear hX1 c2 f2 HO HBX HB
        go_wp2_with ((with_reducible show wpList _ _ _ (⟨some 56, _, _, _, _, _⟩ :: _) _ _); refine wpList_load_row rfl 63 (.tmp 7) rfl gh rfl 63 (pktC (layH S t k) nilS) (0, 0) _ HP1.out Tryz.underlying63 rfl (by kernel_rfl) ?_)
        with_reducible refine (HDA.out X1 HB1.out).mono ?_
        rintro e X2 ⟨v5, rfl, ho5, hb5⟩
        have HB2 := lhd (HB1.out.trans (hb5.mono HB1.out.size))
        have HO2 := lhd (HO1.out.mono zA4 hb5)
        have HP2 := lhd (HP1.out.mono hb5)
        have ho5' := zDQ ho5 HB1.out.size HB1.out.size
        have HA2 := lhd ho5'.at
        have HZ2 := lhd HB2.out.size
        obtain ⟨a5, c5, hv5, -⟩ := ho5.opened
        subst hv5
        obtain ⟨q5, hq5⟩ : ∃ q, q = (LP.map pgOf).length := ⟨_, rfl⟩
        have hqL : q5 = LP.length := by rw [hq5, List.length_map]
        rw [← hq5] at HA2 ⊢
        have HQ5 := lhd hq5
        rw [← hqL] at hll
        clear ho5 ho5' hb5 hq5 hqL
        go_wp2_with ((with_reducible show wpList _ _ _ (⟨some 65, _, _, _, _, _⟩ :: _) _ _); refine zAG zA4 X2 rfl (.tmp 63) (.tmp 64) 46 rfl w.heap.size w.heap.size (Nat.le_refl _) 67 (by unfold TByte; decide) i0 _ 32 Tryz.underlying46 hi hz0 hz1 hz2 rfl (.slice ao q co) (F.map pgOf) rfl HO2.out (.slice a5 q5 c5) (LP.map pgOf) rfl HA2.out (by rw [← HQ.out, ← HQ5.out]; unfold maxLen; omega) (by rw [← HQ.out, ← HQ5.out]; omega) HZ2.out ?_; intro v9 w9 ho9 hg9; have HO9 := lhd ho9; have HG9 := lhd hg9; clear ho9 hg9)
        have HP9 : Hid (PktBox w9 gh (layH S t k) nilS) := lhd (by
          obtain ⟨cs5, hcs5, -⟩ := HO2.out
          have hp2 := HP2.out
          refine (HG9.out.block gh hp2.lt fun hv => ?_).trans hp2
          rcases hcs5.2 with ⟨e1, _⟩ | ⟨g', cap, cur, e1, _, hg', _⟩
          · rw [e1] at hv; simp [Value.ownBlock] at hv
          · rw [e1] at hv
            have : gh = g' := by simpa [Value.ownBlock] using hv
            rw [this] at hp2
            unfold PktBox at hp2
            rw [hp2] at hg'
            simp at hg')
        obtain ⟨cs5, hcs5, -⟩ := HO2.out
        refine ⟨⟨k + 1, by omega, by go_num, by rw [HSN.out, List.map_append]; exact HO9.out, ⟨k, HP9.out⟩, HB2.out.grown HG9.out HZ2.out (fun k' hk' => (hcs5.lt k' hk').1)⟩, by simp [intOf]; omega⟩
      · obtain rfl : k = S.g := by omega
        have d1 : decide ((S.g : Int) < (S.g : Int)) = false := decide_eq_false (by omega)
        rw [HPK.out] at HO
        clear hown hbel hbox
        go_wp2
        go_ret2
        exact ⟨_, rfl, HO.out, HB.out⟩
theorem zKZ (hRow : CaRowC) (hEs : StEsisC) (hPut : WrPutC) (hBurst : CaBurstC) (hSync : CaSyncC) (w : World) (lo hi g : Nat) (S : Snd) (t : Nat) (h : SdAt w lo hi g S t) (hT : DgTab w) :
    Calls Tryz.prog 20 #[.pointer (some ⟨g, 0, none⟩)] w fun e w' => (∀ x, x < w.heap.size → x ≠ g → w'.heap[x]? = w.heap[x]?) ∧ Fr lo hi w w' ∧
      ((1099511627774 < t ∧ ∃ E, e = .returned (.tuple #[nilS, E]) ∧ ErrAns 7 nameSnTick w' E ∧ SdAt w' lo hi g S t) ∨
       (t ≤ 1099511627774 ∧ ∃ v, e = .returned (.tuple #[v, .nilIface]) ∧ DgsNew w.heap.size w' v (tickL S t) ∧ SdAt w' lo hi g S (t + 1))) := by
  have hok : SndOk S ∧ t ≤ 1099511627775 := ⟨h.1, h.2.1⟩
  have hlh : lo ≤ hi ∧ hi ≤ w.heap.size := by have h3 := h.2.2.1; have h4 := h.2.2.2.1; have h5 := h.2.2.2.2.1; omega
  obtain ⟨L, he, hx⟩ := h.opens
  have HAT := lhd h
  have c14 := hx.cells.c14
  have HFR : Hid (∀ V, Below w.heap.size w V → Fr lo hi w V) := lhd fun V hV => ⟨hV.mono (by omega), fun x _ hx => hV.block x hx⟩
  have HFA : Hid (∀ V, Below w.heap.size w V → SdAt V lo hi g S t) := lhd fun V hV => HAT.out.far (fun x _ hx => hV.block x (by omega)) hV.size
  by_cases hl : 1099511627774 < t
  · have d1 : decide ((1099511627774 : Int) < (t : Int)) = true := decide_eq_true (by omega)
    have HLT := lhd hl
    clear h he hx hT hl
    go_enter Tryz.func20, Tryz.ntmps20
    go_wp2_with fail
    refine (zAH nameSnTick 7 (by decide) _).mono ?_
    rintro e w1 ⟨E, rfl, hea, hb1⟩
    have HEA := lhd hea
    have HB1 := lhd hb1
    obtain ⟨u, x, rfl⟩ := hea.some (by decide)
    clear hea hb1
    go_wp2
    go_ret2
    exact ⟨fun x hx _ => HB1.out.block x hx, HFR.out _ HB1.out, .inl ⟨HLT.out, _, rfl, HEA.out, HFA.out _ HB1.out⟩⟩
  · have d1 : decide ((1099511627774 : Int) < (t : Int)) = false := decide_eq_false (by omega)
    have htt : t ≤ 1099511627774 := by omega
    have HTT := lhd htt
    have HOUT := lhd (zIw hRow hEs hPut hBurst hSync hx he hok.1 htt hT)
    have HX := lhd hx
    have HT1 : Hid ((t : Int) + 1 = ((t + 1 : Nat) : Int)) := lhd (by omega)
    have hwr : IntKind.i64.wrap ((t : Int) + 1) = (t : Int) + 1 := IntWalk.i64_in _ (by omega)
    clear h he hx hT hl
    go_enter Tryz.func20, Tryz.ntmps20
    go_wp2_with fail
    with_reducible refine HOUT.out.mono ?_
    rintro e w1 ⟨v1, rfl, ho1, hb1⟩
    have HB1 := lhd hb1
    have HO1 := lhd ho1
    have c14 := (HX.out.mono hb1).cells.c14
    have f14 := zAb (j := 14) (HX.out.mono hb1)
    obtain ⟨a1, q1, hv1, -⟩ := ho1.opened
    subst hv1
    have HNX := lhd (HAT.out.next hb1 (t + 1) (by omega))
    clear ho1 hb1
    go_wp2
    go_ret2
    rw [HT1.out]
    refine ⟨fun x hx hne => (Below.heap_setCell _ _ _ x hne).trans (HB1.out.block x hx), HNX.out.2, .inr ⟨HTT.out, _, rfl, ?_, HNX.out.1⟩⟩
    have hlt := HX.out.lt
    exact DgsNew.far HO1.out fun x hx _ => Below.heap_setCell _ _ _ _ (by show x ≠ g; omega)
theorem zLC (w : World) (lo hi g : Nat) (S : Snd) (t : Nat) (n : Int) (h : SdAt w lo hi g S t) (hn : I64 n) :
    Calls Tryz.prog 18 #[.pointer (some ⟨g, 0, none⟩), .int .i64 n] w fun e w' => (∀ x, x < w.heap.size → x ≠ g → w'.heap[x]? = w.heap[x]?) ∧ Fr lo hi w w' ∧
      (((n < 0 ∨ 1099511627775 < (t : Int) + n) ∧ ∃ E, e = .returned E ∧ ErrAns 1 nameSnSkip w' E ∧ SdAt w' lo hi g S t) ∨
       (0 ≤ n ∧ (t : Int) + n ≤ 1099511627775 ∧ e = .returned .nilIface ∧ SdAt w' lo hi g S (t + n.toNat))) := by
  have ht := h.2.1
  have hlh : lo ≤ hi ∧ hi ≤ w.heap.size := by have h3 := h.2.2.1; have h4 := h.2.2.2.1; have h5 := h.2.2.2.2.1; omega
  obtain ⟨L, he, hx⟩ := h.opens
  have HAT := lhd h
  have c14 := hx.cells.c14
  have f14 := zAb (j := 14) hx
  have HFR : Hid (∀ V, Below w.heap.size w V → Fr lo hi w V) := lhd fun V hV => ⟨hV.mono (by omega), fun x _ hx => hV.block x hx⟩
  have HFA : Hid (∀ V, Below w.heap.size w V → SdAt V lo hi g S t) := lhd fun V hV => HAT.out.far (fun x _ hx => hV.block x (by omega)) hV.size
  unfold I64 at hn
  have hwr : IntKind.i64.wrap (1099511627775 - (t : Int)) = 1099511627775 - (t : Int) := IntWalk.i64_in _ (by omega)
  by_cases hl : n < 0 ∨ 1099511627775 < (t : Int) + n
  · have HL := lhd hl
    have hway : (decide (n < 0) = true) ∨ (decide (n < 0) = false ∧ decide (1099511627775 - (t : Int) < n) = true) := by
      by_cases h0 : n < 0
      · exact .inl (decide_eq_true h0)
      · exact .inr ⟨decide_eq_false h0, decide_eq_true (by omega)⟩
    clear h he hx hl
    rcases hway with d0 | ⟨d0, d1⟩
    all_goals
      go_enter Tryz.func18, Tryz.ntmps18
      go_wp2_with fail
      refine (zAH nameSnSkip 1 (by decide) _).mono ?_
      rintro e w1 ⟨E, rfl, hea, hb1⟩
      have HEA := lhd hea
      have HB1 := lhd hb1
      obtain ⟨u, x, rfl⟩ := hea.some (by decide)
      clear hea hb1
      go_wp2
      go_ret
      exact ⟨fun x hx _ => HB1.out.block x hx, HFR.out _ HB1.out, .inl ⟨HL.out, _, rfl, HEA.out, HFA.out _ HB1.out⟩⟩
  · have h0 : 0 ≤ n := by omega
    have h1 : (t : Int) + n ≤ 1099511627775 := by omega
    have d0 : decide (n < 0) = false := decide_eq_false (by omega)
    have d1 : decide (1099511627775 - (t : Int) < n) = false := decide_eq_false (by omega)
    obtain ⟨m, rfl⟩ : ∃ m : Nat, n = m := ⟨n.toNat, by omega⟩
    have H1 := lhd h1
    have HT1 : Hid ((t : Int) + (m : Int) = ((t + m : Nat) : Int)) := lhd (by omega)
    have hwr2 : IntKind.i64.wrap ((t : Int) + (m : Int)) = (t : Int) + (m : Int) := IntWalk.i64_in _ (by omega)
    have HNX := lhd (HAT.out.next (Below.refl w.heap.size w) (t + m) (by omega))
    clear h he hx hl h0
    go_enter Tryz.func18, Tryz.ntmps18
    go_wp2
    go_ret
    rw [HT1.out]
    exact ⟨fun x _ hne => Below.heap_setCell _ _ _ x hne, HNX.out.2, .inr ⟨by omega, by omega, rfl, HNX.out.1⟩⟩
theorem zHr (hRow : CaRowC) (hEs : StEsisC) (hPut : WrPutC) (hBurst : CaBurstC) (hSync : CaSyncC) (w : World) (lo hi g : Nat) (S : Snd) (t : Nat) (h : SdAt w lo hi g S t) (hT : DgTab w) :
    Calls Tryz.prog 20 #[.pointer (some ⟨g, 0, none⟩)] w fun e w' => Fr lo hi w w' ∧
      ((1099511627774 < t ∧ ∃ E, e = .returned (.tuple #[nilS, E]) ∧ ErrAns 7 nameSnTick w' E ∧ SdAt w' lo hi g S t) ∨
       (t ≤ 1099511627774 ∧ ∃ v, e = .returned (.tuple #[v, .nilIface]) ∧ DgsNew w.heap.size w' v (tickL S t) ∧ SdAt w' lo hi g S (t + 1))) :=
  (zKZ hRow hEs hPut hBurst hSync w lo hi g S t h hT).mono fun _ _ h => h.2
theorem zHn (w : World) (lo hi g : Nat) (S : Snd) (t : Nat) (n : Int) (h : SdAt w lo hi g S t) (hn : I64 n) :
    Calls Tryz.prog 18 #[.pointer (some ⟨g, 0, none⟩), .int .i64 n] w fun e w' => Fr lo hi w w' ∧
      (((n < 0 ∨ 1099511627775 < (t : Int) + n) ∧ ∃ E, e = .returned E ∧ ErrAns 1 nameSnSkip w' E ∧ SdAt w' lo hi g S t) ∨
       (0 ≤ n ∧ (t : Int) + n ≤ 1099511627775 ∧ e = .returned .nilIface ∧ SdAt w' lo hi g S (t + n.toNat))) :=
  (zLC w lo hi g S t n h hn).mono fun _ _ h => h.2
end
end Go.Proofs.YtkfimdpcadbcpaaGreatDoor
