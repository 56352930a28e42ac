/- The walks of the fourth layer's laws SymbolXors, SymbolSums. -/
import Derived.Test.YtibgddfnkfhlfaaDoorLaw04T
namespace Go.Proofs.YtibgddfnkfhlfaaDoor
open Go.RowKit Go.Extern.Stop Go.Stop Go.Extern

theorem flip_u8 (x : Nat) (h : x < 256) : IntKind.u8.wrap (255 - (x : Int)) = ((255 - x : Nat) : Int) := by
  rw [IntKind.wrap_u8]; omega

theorem Chain.far {w w' : World} {n : Int} {cs : List ByteArray} {E : Value} {row : Option Nat} (h : Chain w n cs E) (hg : w.grownBy w' row) (hr : ∀ b s, w.cell? ⟨b, 0, none⟩ = some (.string s) → some b ≠ row) : Chain w' n cs E := by
  induction h with
  | leaf => exact .leaf
  | wrap b c E1 l hc he _ ih => exact .wrap b c E1 l (hg.cell hc (hr b _ hc)) (hg.cell he (hr b _ hc)) ih
theorem ErrAns.kept {w2 wr : World} {oo : Option Addr} {oc n B : Nat} {e : TypeId} {zs : List Nat} {k : Int} {c : ByteArray} {E : Value} (hown : w2.ownsRow B e 1 (.slice oo n oc) n (zs.map byteV)) (hz : n = 0 → w2 = wr)
    (hg : w2.grownBy wr (Value.slice oo n oc).ownBlock) (h : ErrAns k c w2 E) : ErrAns k c wr E := by
  by_cases h0 : n = 0
  · rw [← hz h0]; exact h
  · rcases h with h | ⟨h1, ls, h2⟩
    · exact .inl h
    · refine .inr ⟨h1, ls, h2.far hg fun b s hs he => ?_⟩
      obtain ⟨oo', oc', e1, -, hog⟩ := own_open hown
      obtain ⟨g, rfl⟩ := hog (by omega)
      cases e1
      have hb : b = g := by simpa [Value.ownBlock] using he
      subst hb
      have hx := hown.cellAt 0 (by omega)
      rw [hs] at hx
      have hl : 0 < zs.length := by have := hown.1; simp at this; omega
      rw [List.getElem?_map, List.getElem?_eq_getElem hl] at hx
      simp [byteV] at hx

set_option maxRecDepth 1000000 in
set_option maxHeartbeats 8000000 in
theorem xors4 {w : World} (va vb : Value) (xa xb : List Nat) (ha : ListAt byteV w va xa) (hb : ListAt byteV w vb xb) (hao : Octets xa) (hbo : Octets xb) (has : xa.length * 1 ≤ reachBytes) (hbs : xb.length * 1 ≤ reachBytes) (hg : Laid w) :
    Calls Tryd.prog 3 #[va, vb] w fun e w' => e = .returned (.bool true) ∧ Below w.heap.size w w' := by
  obtain ⟨j0, hj0, jz0, jz1, jz2⟩ := info_parts info_u8
  have hal : xa.length ≤ 140737488351232 := by unfold reachBytes at has; omega
  have hbl : xb.length ≤ 140737488351232 := by unfold reachBytes at hbs; omega
  have HA := Lib.hid ha
  have HB := Lib.hid hb
  have HAO := Lib.hid hao
  have HBO := Lib.hid hbo
  have HG := Lib.hid hg
  have HB0 := Lib.hid ((Below.refl w.heap.size w).alloc (Nat.le_refl _) (.cells #[] 5))
  have HO0 := Lib.hid (World.ownsRow_made (base := w.heap.size) (e := 5) (size := 1) w #[] 0 (Nat.le_refl _) (by decide) rfl)
  have HA0 := Lib.hid (HA.out.mono HB0.out)
  obtain ⟨aa, ca, rfl, -, -, -⟩ := ha
  obtain ⟨ab, cb, rfl, -, -, -⟩ := hb
  clear hao hbo hg has hbs
  by_cases he : xa.length = xb.length
  · obtain ⟨n, hn⟩ : ∃ n, xa.length = n := ⟨_, rfl⟩
    have hnb : xb.length = n := by omega
    have HNA := Lib.hid hn
    have HNB := Lib.hid hnb
    rw [hn] at HA HA0 hal ⊢
    rw [hnb] at HB hbl ⊢
    clear he hn hnb
    go_enter Tryd.func3, Tryd.ntmps3
    go_wp2_with (at_builtin; go_loud (refine wpList_append_of (f := byteV) _ rfl (.tmp 9) (.tmp 10) 22 rfl w.heap.size 5 j0 (.int .u8 0) 1 Tryd.underlying22 hj0 jz0 jz1 jz2 rfl _ 0 [] rfl HO0.out _ xa rfl HA0.out (fun y _ => rfl) (by rw [HNA.out]; unfold maxLen; omega) (by rw [HNA.out]; omega) (by simp) ?_; intro own w1 hownA hgrowA; have HB1 := Lib.hid (HB0.out.grown hgrowA (by simp) (fun k hk => (HO0.out.lt k hk).1)); rw [HNA.out, Nat.zero_add, List.nil_append] at hownA; have HO1 := Lib.hid hownA; obtain ⟨oo, oc, rfl, hocap, hog⟩ := own_open hownA; have HOG := Lib.hid hog; clear hownA hgrowA hog))
    have HL1 := Lib.hid (ListAt.of_owns HO1.out)
    have hsz1 := HB1.out.size
    have HBX := Lib.hid (HB.out.mono HB1.out)
    refine (SXor_ok _ _ xa xb n HL1.out HBX.out HAO.out HBO.out HNA.out HNB.out (by omega)).mono ?_
    rintro e w2 ⟨vs, rfl, hos, hb2⟩
    have HB2 := Lib.hid (HB1.out.trans (hb2.mono hsz1))
    have HO2 := Lib.hid (owns_kept HO1.out hb2)
    have HS2 := Lib.hid hos
    have HDB : Hid (vs.ownBlock = none ∨ vs.ownBlock ≠ (Value.slice oo n oc).ownBlock) := Lib.hid (by
      cases hv : vs.ownBlock with
      | none => exact .inl rfl
      | some k =>
        refine .inr fun e => ?_
        have h1 := (hos.lt k hv).1
        have h2 := (HO1.out.lt k e.symm).2
        omega)
    obtain ⟨so, sc, rfl, -, -⟩ := own_open hos
    clear hos hb2
    go_wp2_with fail
    go_loopw [8] (fun i wr => ∃ k : Nat, k ≤ n ∧ i = .int .i64 k ∧ (∃ zs : List Nat, zs.length = n ∧ Octets zs ∧ wr.ownsRow w.heap.size 5 1 (.slice oo n oc) n (zs.map byteV)) ∧ w2.grownBy wr (Value.slice oo n oc).ownBlock ∧ Below w.heap.size w wr) (fun i _ => n - (intOf i).toNat)
    case atStart => exact ⟨0, Nat.zero_le _, rfl, ⟨xa, HNA.out, HAO.out, HO2.out⟩, World.grownBy.refl _ _, HB2.out⟩
    case round =>
      obtain ⟨k, hk, rfl, ⟨zs, hzl, hzo, hown⟩, hgr, hbel⟩ := hrel
      have hsz := hbel.size
      by_cases hlt : k < n
      · obtain ⟨g, rfl⟩ := HOG.out (by omega)
        have hgb := (hown.lt g rfl).1
        have hx1 : wr.cell? ⟨g, k, none⟩ = some (.int .u8 ((zs.getD k 0 : Nat) : Int)) := by
          rw [hown.cellAt k (by omega)]
          simp [List.getD_eq_getElem?_getD, hzl, hlt, byteV]
        have hf1 : wr.frozen? ⟨g, k, none⟩ = false := hown.frozenAt k
        have hzk := hzo.getD k
        have hfl := flip_u8 (zs.getD k 0) hzk
        have HOW := Lib.hid hown
        have HGR := Lib.hid hgr
        have HBW := Lib.hid hbel
        have HZL := Lib.hid hzl
        have HZO := Lib.hid hzo
        clear hown hgr hbel hzl hzo hzk
        generalize zs.getD k 0 = x at *
        go_wp2
        go_roundw
        case rel => exact ⟨k + 1, by omega, by go_num, ⟨zs.set k (255 - x), by simpa using HZL.out, HZO.out.set _ _ (by omega), by rw [List.map_set]; exact (HOW.out.stored k (.int .u8 ((255 - x : Nat) : Int))).1⟩, grown_trans HGR.out (HOW.out.stored k (.int .u8 ((255 - x : Nat) : Int))).2, HBW.out.setCell (p := ⟨g, k, none⟩) hgb _⟩
        case measure => simp [intOf]; omega
      · have HS3 := Lib.hid (ListAt.of_owns (HS2.out.kept hgr HDB.out))
        have HB3 := Lib.hid hbel
        have HA3 := Lib.hid (HA.out.mono hbel)
        have HBB3 := Lib.hid (HB.out.mono hbel)
        have hnn : ((n : Int) == (n : Int)) = true := by simp
        have hnn2 : ((n : Int) != (n : Int)) = false := by simp
        clear hown hgr hbel hzo
        have hk0 := (HS3.out.mono (Below.refl wr.heap.size wr).drew).str
        have HA3' := Lib.hid (HA3.out.mono (Below.refl wr.heap.size wr).drew)
        have HBB3' := Lib.hid (HBB3.out.mono (Below.refl wr.heap.size wr).drew)
        have HS3' := Lib.hid (HS3.out.mono (Below.refl wr.heap.size wr).drew)
        have HB3' := Lib.hid HB3.out.drew
        have hszd : w.heap.size ≤ wr.drew.heap.size := HB3'.out.size
        go_wp2_with fail
        go_region_law (first
          | (go_simp; go_at_call 10; refine (sAdd_any _ _ xa xb n HA3'.out HBB3'.out HAO.out HBO.out HNA.out HNB.out (by omega)).mono ?_; rintro e w4 ⟨vd, rfl, hod, hb4⟩; have HB4 := Lib.hid (HB3'.out.trans (hb4.mono hszd)); have hk1 := (HS3'.out.mono hb4).str; have hk2 := (ListAt.of_owns hod).str; obtain ⟨do', dc, rfl, -, -⟩ := own_open hod; clear hod hb4)
          | (go_simp; go_at_call 9; refine (awake4 _).mono ?_; rintro e wz ⟨rfl, hbz⟩; have HBZ := Lib.hid (HB4.out.trans (hbz.mono HB4.out.size)); clear hbz))
        all_goals go_wp2
        all_goals go_ret
        all_goals exact ⟨by rfl, HBZ.out⟩
  · obtain ⟨n, hn⟩ : ∃ n, xa.length = n := ⟨_, rfl⟩
    obtain ⟨nb, hnb⟩ : ∃ n, xb.length = n := ⟨_, rfl⟩
    have HNA := Lib.hid hn
    have HNE : Hid (xa.length ≠ xb.length) := Lib.hid he
    rw [hn] at HA HA0 hal ⊢
    rw [hnb] at HB hbl ⊢
    have hi1 : ((n : Int) == (nb : Int)) = false := by simp; omega
    have hi2 : ((n : Int) != (nb : Int)) = true := by simp; omega
    clear he hn hnb
    go_enter Tryd.func3, Tryd.ntmps3
    go_wp2_with (at_builtin; go_loud (refine wpList_append_of (f := byteV) _ rfl (.tmp 9) (.tmp 10) 22 rfl w.heap.size 5 j0 (.int .u8 0) 1 Tryd.underlying22 hj0 jz0 jz1 jz2 rfl _ 0 [] rfl HO0.out _ xa rfl HA0.out (fun y _ => rfl) (by rw [HNA.out]; unfold maxLen; omega) (by rw [HNA.out]; omega) (by simp) ?_; intro own w1 hownA hgrowA; have HB1 := Lib.hid (HB0.out.grown hgrowA (by simp) (fun k hk => (HO0.out.lt k hk).1)); rw [HNA.out, Nat.zero_add, List.nil_append] at hownA; have HO1 := Lib.hid hownA; obtain ⟨oo, oc, rfl, hocap, hog⟩ := own_open hownA; have HOG := Lib.hid hog; clear hownA hgrowA hog))
    have HL1 := Lib.hid (ListAt.of_owns HO1.out)
    have hsz1 := HB1.out.size
    have HBX := Lib.hid (HB.out.mono HB1.out)
    refine (SXor_bad _ _ xa xb HL1.out HBX.out HNE.out).mono ?_
    rintro e w2 ⟨E2, rfl, he2, hb2⟩
    have HB2 := Lib.hid (HB1.out.trans (hb2.mono hsz1))
    have HO2 := Lib.hid (owns_kept HO1.out hb2)
    have HE2 := Lib.hid he2
    obtain ⟨u, x, rfl⟩ := he2.some (by decide)
    clear he2 hb2
    go_wp2_with fail
    go_loopw [8] (fun i wr => ∃ k : Nat, k ≤ n ∧ i = .int .i64 k ∧ (∃ zs : List Nat, zs.length = n ∧ Octets zs ∧ wr.ownsRow w.heap.size 5 1 (.slice oo n oc) n (zs.map byteV)) ∧ w2.grownBy wr (Value.slice oo n oc).ownBlock ∧ Below w.heap.size w wr ∧ (n = 0 → w2 = wr)) (fun i _ => n - (intOf i).toNat)
    case atStart => exact ⟨0, Nat.zero_le _, rfl, ⟨xa, HNA.out, HAO.out, HO2.out⟩, World.grownBy.refl _ _, HB2.out, fun _ => rfl⟩
    case round =>
      obtain ⟨k, hk, rfl, ⟨zs, hzl, hzo, hown⟩, hgr, hbel, hz⟩ := hrel
      have hsz := hbel.size
      by_cases hlt : k < n
      · obtain ⟨g, rfl⟩ := HOG.out (by omega)
        have hgb := (hown.lt g rfl).1
        have hx1 : wr.cell? ⟨g, k, none⟩ = some (.int .u8 ((zs.getD k 0 : Nat) : Int)) := by
          rw [hown.cellAt k (by omega)]
          simp [List.getD_eq_getElem?_getD, hzl, hlt, byteV]
        have hf1 : wr.frozen? ⟨g, k, none⟩ = false := hown.frozenAt k
        have hzk := hzo.getD k
        have hfl := flip_u8 (zs.getD k 0) hzk
        have HOW := Lib.hid hown
        have HGR := Lib.hid hgr
        have HBW := Lib.hid hbel
        have HZL := Lib.hid hzl
        have HZO := Lib.hid hzo
        clear hown hgr hbel hzl hzo hzk hz
        generalize zs.getD k 0 = x at *
        go_wp2
        go_roundw
        case rel => exact ⟨k + 1, by omega, by go_num, ⟨zs.set k (255 - x), by simpa using HZL.out, HZO.out.set _ _ (by omega), by rw [List.map_set]; exact (HOW.out.stored k (.int .u8 ((255 - x : Nat) : Int))).1⟩, grown_trans HGR.out (HOW.out.stored k (.int .u8 ((255 - x : Nat) : Int))).2, HBW.out.setCell (p := ⟨g, k, none⟩) hgb _, fun h => by omega⟩
        case measure => simp [intOf]; omega
      · have HB3 := Lib.hid hbel
        have HE3 : Hid (ErrAns 2 nameXor wr (.iface u x)) := Lib.hid (ErrAns.kept HO2.out hz hgr HE2.out)
        clear hown hbel hzo hgr hz
        go_wp2_with fail
        refine (tells_ans 2 nameXor _ HE3.out (HG.out.mono HB3.out)).mono ?_
        rintro e w4 ⟨rfl, hb4⟩
        have HB4 := Lib.hid (HB3.out.trans (hb4.mono hsz))
        clear hb4
        go_wp2_with fail
        refine (awake4 _).mono ?_
        rintro e wz ⟨rfl, hbz⟩
        have HBZ := Lib.hid (HB4.out.trans (hbz.mono HB4.out.size))
        clear hbz
        go_wp2
        go_ret
        exact ⟨rfl, HBZ.out⟩
end Go.Proofs.YtibgddfnkfhlfaaDoor
