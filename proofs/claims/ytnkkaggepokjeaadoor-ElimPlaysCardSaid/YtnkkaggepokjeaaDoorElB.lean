/- Package elim: (equation).add. -/
import Derived.Test.YtnkkaggepokjeaaDoorElA
import Derived.Test.YtnkkaggepokjeaaDoorSyA
namespace Go.Proofs.YtnkkaggepokjeaaDoor
open Go.RowKit Go.Extern.Stop Go.Stop Go.Extern

theorem eq2_laid (w : World) (r s r2 s2 : Value) : ∃ wz, wz = (w.alloc (.cells #[r, s] 82)).alloc (.cells #[r2, s2] 82) ∧ Below w.heap.size w wz ∧ wz.heap.size = w.heap.size + 2 ∧
    wz.cell? ⟨w.heap.size, 0, none⟩ = some r ∧ wz.cell? ⟨w.heap.size, 1, none⟩ = some s ∧ wz.cell? ⟨w.heap.size + 1, 0, none⟩ = some r2 ∧ wz.cell? ⟨w.heap.size + 1, 1, none⟩ = some s2 := by
  have h1 : (w.alloc (.cells #[r, s] 82)).heap[w.heap.size]? = some (.cells #[r, s] 82 (0, 0)) := heap_alloc_new w _
  have hz : (w.alloc (.cells #[r, s] 82)).heap.size = w.heap.size + 1 := World.size_alloc _ _
  have h2 : ((w.alloc (.cells #[r, s] 82)).alloc (.cells #[r2, s2] 82)).heap[w.heap.size]? = some (.cells #[r, s] 82 (0, 0)) := by
    rw [Below.heap_alloc _ _ _ (by omega)]; exact h1
  have h3 := heap_alloc_new (w.alloc (.cells #[r, s] 82)) (.cells #[r2, s2] 82)
  rw [hz] at h3
  exact ⟨_, rfl, ((Below.refl _ _).alloc (Nat.le_refl _) _).alloc (by omega) _, by rw [World.size_alloc, hz], cell_of_heap h2 rfl, cell_of_heap h2 rfl, cell_of_heap h3 rfl, cell_of_heap h3 rfl⟩

theorem own_block_ne {w : World} {e e' : TypeId} {g g' n n' c c' B B' : Nat} {xs xs' : List Value} (h : w.ownsRow B e 1 (.slice (some ⟨g, 0, none⟩) n c) n xs) (h' : w.ownsRow B' e' 1 (.slice (some ⟨g', 0, none⟩) n' c') n' xs') (hne : e ≠ e') : g ≠ g' := by
  rintro rfl
  rcases h.2 with ⟨h1, _⟩ | ⟨b, cap, cur, h1, h2, h3, _⟩
  · cases h1
  · rcases h'.2 with ⟨k1, _⟩ | ⟨b', cap', cur', k1, k2, k3, _⟩
    · cases k1
    · have e1 : g = b := by simpa [Value.ownBlock] using congrArg Value.ownBlock h1
      have e2 : g = b' := by simpa [Value.ownBlock] using congrArg Value.ownBlock k1
      subst e1
      subst e2
      rw [h3] at k3
      simp at k3
      exact hne k3.2

theorem ListAt.wordsN {w : World} {v : Value} {l : List Nat} (h : ListAt wordV w v l) (n : Nat) (hn : l.length = n) :
    ∃ a cap, v = .slice a n cap ∧ n ≤ cap ∧ cap ≤ maxLen ∧ (0 < n → ∃ b off, a = some ⟨b, off, none⟩ ∧ ∀ j, j < n → w.cell? ⟨b, off + j, none⟩ = some (.int .u64 ((l.getD j 0 : Nat) : Int))) := by
  subst hn
  obtain ⟨a, cap, rfl, hc, hm, h⟩ := h
  refine ⟨a, cap, rfl, hc, hm, fun hp => ?_⟩
  obtain ⟨b, off, rfl, hcell⟩ := h hp
  refine ⟨b, off, rfl, fun j hj => ?_⟩
  rw [hcell j hj, List.getD_eq_getElem?_getD, List.getElem?_eq_getElem hj]
  rfl

set_option maxRecDepth 1000000 in
set_option maxHeartbeats 4000000 in
theorem eqAdd_any {w0 w : World} (g1 c1 g2 c2 K S : Nat) (r s r2 s2 : List Nat) (v1 v2 : Value) (hb : Below w0.heap.size w0 w)
    (hr : w.ownsRow w0.heap.size 47 1 (.slice (some ⟨g1, 0, none⟩) K c1) K (r.map wordV)) (hs : w.ownsRow w0.heap.size 5 1 (.slice (some ⟨g2, 0, none⟩) S c2) S (s.map byteV))
    (h1 : ListAt wordV w0 v1 r2) (h2 : ListAt byteV w0 v2 s2) (hrl : r.length = K) (hsl : s.length = S) (hr2l : r2.length = K) (hs2l : s2.length = S) (hrw : Word r) (hsw : Octets s) (hr2w : Word r2) (hs2w : Octets s2) (hK : K ≤ 100000) (hS : S ≤ 100000) :
    Calls Tryd.prog 62 #[.agg #[.slice (some ⟨g1, 0, none⟩) K c1, .slice (some ⟨g2, 0, none⟩) S c2], .agg #[v1, v2]] w fun e w' => e = .returned (.tuple #[]) ∧
      w'.ownsRow w0.heap.size 47 1 (.slice (some ⟨g1, 0, none⟩) K c1) K ((xorW r r2).map wordV) ∧ w'.ownsRow w0.heap.size 5 1 (.slice (some ⟨g2, 0, none⟩) S c2) S ((xorW s s2).map byteV) ∧ Below w0.heap.size w0 w' ∧ (∀ k, k < w.heap.size → k ≠ g1 → k ≠ g2 → w'.heap[k]? = w.heap[k]?) := by
  have HNE := Lib.hid (own_block_ne hr hs (by decide))
  have hl1 := hr.lt g1 rfl
  have hl2 := hs.lt g2 rfl
  have HGE1 : Hid (w.heap.size ≠ g1) := Lib.hid (by omega)
  have HGE2 : Hid (w.heap.size ≠ g2) := Lib.hid (by omega)
  have HGF1 : Hid (w.heap.size + 1 ≠ g1) := Lib.hid (by omega)
  obtain ⟨wz, hwz, hbz, hzs, he0, he1, hf0, hf1⟩ := eq2_laid w (.slice (some ⟨g1, 0, none⟩) K c1) (.slice (some ⟨g2, 0, none⟩) S c2) v1 v2
  obtain ⟨a1, cp1, rfl, hcp1, -, hcell1⟩ := h1.wordsN K hr2l
  obtain ⟨a2, cp2, rfl, hcp2, -, hcell2⟩ := h2.bytes S hs2l
  have HBA := Lib.hid (hb.trans (hbz.mono hb.size))
  have HC1 : Hid (0 < K → ∃ b off, a1 = some ⟨b, off, none⟩ ∧ ∀ j, j < K → wz.cell? ⟨b, off + j, none⟩ = some (.int .u64 ((r2.getD j 0 : Nat) : Int)) ∧ b ≠ g1) := Lib.hid fun hp => by
    obtain ⟨b, off, e, hc⟩ := hcell1 (by omega)
    refine ⟨b, off, e, fun j hj => ?_⟩
    have hx := hc j (by omega)
    have hlt : b < w0.heap.size := World.block_lt_of_cell? w0 _ hx
    refine ⟨((hb.trans (hbz.mono hb.size)).cell (p := ⟨b, off + j, none⟩) hlt).trans hx, ?_⟩
    omega
  have HC2 : Hid (0 < S → ∃ b off, a2 = some ⟨b, off, none⟩ ∧ ∀ j, j < S → b ≠ g1 ∧ b ≠ g2 ∧ wz.cell? ⟨b, off + j, none⟩ = some (.int .u8 ((s2.getD j 0 : Nat) : Int))) := Lib.hid fun hp => by
    obtain ⟨b, off, e, hc⟩ := hcell2 (by omega)
    refine ⟨b, off, e, fun j hj => ?_⟩
    have hx := hc j (by omega)
    have hlt : b < w0.heap.size := World.block_lt_of_cell? w0 _ hx
    exact ⟨by omega, by omega, ((hb.trans (hbz.mono hb.size)).cell (p := ⟨b, off + j, none⟩) hlt).trans hx⟩
  have HOR := Lib.hid (owns_kept hr hbz)
  have HOS := Lib.hid (owns_kept hs hbz)
  have HE0 := Lib.hid he0
  have HE1Z := Lib.hid he1
  have HF1Z := Lib.hid hf1
  have HRL := Lib.hid hrl
  have HR2L := Lib.hid hr2l
  have HRW := Lib.hid hrw
  have HR2W := Lib.hid hr2w
  have HSL := Lib.hid hsl
  have HS2L := Lib.hid hs2l
  have HSW := Lib.hid hsw
  have HS2W := Lib.hid hs2w
  have HWZ := Lib.hid hwz
  have HBZ := Lib.hid hbz
  clear hwz hbz hb hr hs h1 hcell1 hcell2 hrl hr2l hrw hr2w hsl hs2l hsw hs2w hl1 hl2 h2
  go_enter Tryd.func62, Tryd.ntmps62
  go_wp2_with fail
  rw [← HWZ.out]
  go_wp2

  go_loopw [11] (fun q wr => ∃ k : Nat, k ≤ K ∧ q = .int .i64 k ∧ (∃ zs : List Nat, zs.length = K ∧ Word zs ∧ (∀ j, j < K → zs.getD j 0 = if j < k then r.getD j 0 ^^^ r2.getD j 0 else r.getD j 0) ∧ wr.ownsRow w0.heap.size 47 1 (.slice (some ⟨g1, 0, none⟩) K c1) K (zs.map wordV)) ∧ wz.grownBy wr (some g1)) (fun q _ => K - (intOf q).toNat)
  case atStart => exact ⟨0, Nat.zero_le _, rfl, ⟨r, HRL.out, HRW.out, fun j _ => by simp, HOR.out⟩, World.grownBy.refl _ _⟩
  case round =>
    obtain ⟨k, hk, rfl, ⟨zs, hzl, hzw, hzv, hown⟩, hgr⟩ := hrel
    by_cases hlt : k < K
    · obtain ⟨b, off, rfl, hcc⟩ := HC1.out (by omega)
      have hb1 : wr.cell? ⟨w.heap.size, 0, none⟩ = some (.slice (some ⟨g1, 0, none⟩) K c1) := hgr.cell HE0.out (by intro e; exact HGE1.out (by simpa using e))
      have hy1 : wr.cell? ⟨b, off + k, none⟩ = some (.int .u64 ((r2.getD k 0 : Nat) : Int)) := hgr.cell (hcc k hlt).1 (by intro e; exact (hcc k hlt).2 (by simpa using e))
      have hx1 : wr.cell? ⟨g1, k, none⟩ = some (.int .u64 ((r.getD k 0 : Nat) : Int)) := by
        rw [hown.cellAt k (by omega)]
        have e := hzv k hlt
        rw [if_neg (by omega)] at e
        have : k < zs.length := by omega
        simp only [List.getD_eq_getElem?_getD, List.getElem?_eq_getElem this, Option.getD_some] at e
        simp [this, wordV, e]
      have hf1 : wr.frozen? ⟨g1, k, none⟩ = false := hown.frozenAt k
      have hxlt := HRW.out.getD k
      have hylt := HR2W.out.getD k
      have hlt3 : r.getD k 0 ^^^ r2.getD k 0 < 18446744073709551616 := Nat.xor_lt_two_pow (n := 64) hxlt hylt
      have hbx := bits_xor_u64_nat (r.getD k 0) (r2.getD k 0) hxlt hylt
      have HZ1 : Hid (∀ u, r.getD k 0 ^^^ r2.getD k 0 = u → ∀ j, j < K → (zs.set k u).getD j 0 = if j < k + 1 then r.getD j 0 ^^^ r2.getD j 0 else r.getD j 0) := Lib.hid fun u e j hj => by
        rw [getD_set _ _ _ _ _ (by omega)]
        by_cases e1 : j = k
        · subst e1; rw [if_pos rfl, if_pos (by omega), e]
        · rw [if_neg e1, hzv j hj]
          by_cases e2 : j < k
          · rw [if_pos e2, if_pos (by omega)]
          · rw [if_neg e2, if_neg (by omega)]
      have HOW := Lib.hid hown
      have HG := Lib.hid hgr
      have HZL := Lib.hid hzl
      have HZW := Lib.hid hzw
      have HL3 := Lib.hid hlt3
      clear hown hgr hzl hzw hzv hxlt hylt hlt3 hcc
      generalize r.getD k 0 = X at *
      generalize r2.getD k 0 = Y at *
      go_wp2
      go_roundw
      case rel => exact ⟨k + 1, by omega, by go_num, ⟨zs.set k (X ^^^ Y), by simpa using HZL.out, HZW.out.set _ _ HL3.out, HZ1.out _ rfl, by rw [List.map_set]; exact (HOW.out.stored k (.int .u64 ((X ^^^ Y : Nat) : Int))).1⟩, grown_trans HG.out (HOW.out.stored k (.int .u64 ((X ^^^ Y : Nat) : Int))).2⟩
      case measure => simp [intOf]; omega
    · have hk' : k = K := by omega
      have HV : Hid (zs = xorW r r2) := Lib.hid (by
        have hxy : r.length = r2.length := by rw [HRL.out, HR2L.out]
        apply ext_getD (by rw [xorW_length hxy, hzl, HRL.out])
        intro j hj
        have e := hzv j (by omega)
        rw [if_pos (by omega), ← xorW_getD hxy] at e
        exact e)
      have HOR2 := Lib.hid hown
      rw [HV.out] at HOR2
      have HGR1 := Lib.hid hgr
      clear hown hgr hzv hzl hzw HV
      obtain ⟨wy, hwy⟩ : ∃ wy, wy = wr := ⟨_, rfl⟩
      subst hwy
      have HE1 : Hid (wy.cell? ⟨w.heap.size, 1, none⟩ = some (.slice (some ⟨g2, 0, none⟩) S c2)) := Lib.hid (HGR1.out.cell HE1Z.out (by intro e; exact HGE1.out (by simpa using e)))
      have hf1y : wy.cell? ⟨w.heap.size + 1, 1, none⟩ = some (.slice a2 S cp2) := HGR1.out.cell HF1Z.out (by intro e; exact HGF1.out (by simpa using e))
      have HOS2 := Lib.hid (HOS.out.kept HGR1.out (.inr (by intro e; exact HNE.out (by simpa [Value.ownBlock] using e.symm))))
      have HC2 : Hid (0 < S → ∃ b off, a2 = some ⟨b, off, none⟩ ∧ ∀ j, j < S → wy.cell? ⟨b, off + j, none⟩ = some (.int .u8 ((s2.getD j 0 : Nat) : Int)) ∧ b ≠ g2) := Lib.hid fun hp => by
        obtain ⟨b, off, e, hc⟩ := HC2.out hp
        refine ⟨b, off, e, fun j hj => ?_⟩
        obtain ⟨q1, q2, q3⟩ := hc j hj
        exact ⟨HGR1.out.cell q3 (by intro e; exact q1 (by simpa using e)), q2⟩
      clear HC1
      go_wp2

      go_loopw [28] (fun q wr => ∃ k : Nat, k ≤ S ∧ q = .int .i64 k ∧ (∃ zs : List Nat, zs.length = S ∧ Octets zs ∧ (∀ j, j < S → zs.getD j 0 = if j < k then s.getD j 0 ^^^ s2.getD j 0 else s.getD j 0) ∧ wr.ownsRow w0.heap.size 5 1 (.slice (some ⟨g2, 0, none⟩) S c2) S (zs.map byteV)) ∧ wy.grownBy wr (some g2)) (fun q _ => S - (intOf q).toNat)
      case atStart => exact ⟨0, Nat.zero_le _, rfl, ⟨s, HSL.out, HSW.out, fun j _ => by simp, HOS2.out⟩, World.grownBy.refl _ _⟩
      case round =>
        obtain ⟨k, hk, rfl, ⟨zs, hzl, hzw, hzv, hown⟩, hgr⟩ := hrel
        by_cases hlt : k < S
        · obtain ⟨b, off, rfl, hcc⟩ := HC2.out (by omega)
          have hb1 : wr.cell? ⟨w.heap.size, 1, none⟩ = some (.slice (some ⟨g2, 0, none⟩) S c2) := hgr.cell HE1.out (by intro e; exact HGE2.out (by simpa using e))
          have hy1 : wr.cell? ⟨b, off + k, none⟩ = some (.int .u8 ((s2.getD k 0 : Nat) : Int)) := hgr.cell (hcc k hlt).1 (by intro e; exact (hcc k hlt).2 (by simpa using e))
          have hx1 : wr.cell? ⟨g2, k, none⟩ = some (.int .u8 ((s.getD k 0 : Nat) : Int)) := by
            rw [hown.cellAt k (by omega)]
            have e := hzv k hlt
            rw [if_neg (by omega)] at e
            have : k < zs.length := by omega
            simp only [List.getD_eq_getElem?_getD, List.getElem?_eq_getElem this, Option.getD_some] at e
            simp [this, byteV, e]
          have hf1 : wr.frozen? ⟨g2, k, none⟩ = false := hown.frozenAt k
          have hxlt := HSW.out.getD k
          have hylt := HS2W.out.getD k
          have hlt3 : s.getD k 0 ^^^ s2.getD k 0 < 256 := Nat.xor_lt_two_pow (n := 8) hxlt hylt
          have hbx := bits_xor_u8_nat (s.getD k 0) (s2.getD k 0) hxlt hylt
          have HZ1 : Hid (∀ u, s.getD k 0 ^^^ s2.getD k 0 = u → ∀ j, j < S → (zs.set k u).getD j 0 = if j < k + 1 then s.getD j 0 ^^^ s2.getD j 0 else s.getD j 0) := Lib.hid fun u e j hj => by
            rw [getD_set _ _ _ _ _ (by omega)]
            by_cases e1 : j = k
            · subst e1; rw [if_pos rfl, if_pos (by omega), e]
            · rw [if_neg e1, hzv j hj]
              by_cases e2 : j < k
              · rw [if_pos e2, if_pos (by omega)]
              · rw [if_neg e2, if_neg (by omega)]
          have HOW := Lib.hid hown
          have HG := Lib.hid hgr
          have HZL := Lib.hid hzl
          have HZW := Lib.hid hzw
          have HL3 := Lib.hid hlt3
          clear hown hgr hzl hzw hzv hxlt hylt hlt3 hcc
          generalize s.getD k 0 = X at *
          generalize s2.getD k 0 = Y at *
          go_wp2
          go_roundw
          case rel => exact ⟨k + 1, by omega, by go_num, ⟨zs.set k (X ^^^ Y), by simpa using HZL.out, HZW.out.set _ _ HL3.out, HZ1.out _ rfl, by rw [List.map_set]; exact (HOW.out.stored k (.int .u8 ((X ^^^ Y : Nat) : Int))).1⟩, grown_trans HG.out (HOW.out.stored k (.int .u8 ((X ^^^ Y : Nat) : Int))).2⟩
          case measure => simp [intOf]; omega
        · have hk' : k = S := by omega
          have HV : Hid (zs = xorW s s2) := Lib.hid (by
            have hxy : s.length = s2.length := by rw [HSL.out, HS2L.out]
            apply ext_getD (by rw [xorW_length hxy, hzl, HSL.out])
            intro j hj
            have e := hzv j (by omega)
            rw [if_pos (by omega), ← xorW_getD hxy] at e
            exact e)
          have HOS3 := Lib.hid hown
          rw [HV.out] at HOS3
          have HGR2 := Lib.hid hgr
          clear hown hgr hzv hzl hzw HV

          have HORF := Lib.hid (HOR2.out.kept HGR2.out (.inr (by intro e; exact HNE.out (by simpa [Value.ownBlock] using e))))
          have HBF := Lib.hid ((HBA.out.grown HGR1.out HBA.out.size (fun k e => by cases e; exact (HOR2.out.lt g1 rfl).1)).grown HGR2.out (Nat.le_trans HBA.out.size HGR1.out.size) (fun k e => by cases e; exact (HOS3.out.lt g2 rfl).1))
          go_wp2
          go_end0
          exact ⟨rfl, HORF.out, HOS3.out, HBF.out, fun k hk n1 n2 => ((HGR2.out.block k (by have := HBZ.out.size; have := HGR1.out.size; omega) (by simpa using n2)).trans (HGR1.out.block k (by have := HBZ.out.size; omega) (by simpa using n1))).trans (HBZ.out.block k hk)⟩
end Go.Proofs.YtnkkaggepokjeaaDoor
